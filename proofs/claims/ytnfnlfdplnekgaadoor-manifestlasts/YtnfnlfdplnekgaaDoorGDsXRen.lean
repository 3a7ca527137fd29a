/-
  The contracts of disk.New, Sync, drop, Remove.
  The contracts of disk.Remove and disk.Append.
  The contracts of disk.Append, as one, and of disk.Rename.
-/
import Derived.Test.YtnfnlfdplnekgaaDoorGDsXFn
import Derived.Deep.RegionHeld3
namespace Go.Proofs.YtnfnlfdplnekgaaDoor.Ds
open Go.RowKit

/-- What a call makes of a disk. -/
structure Stp (w w' : World) (d m : Nat) (L L' : List Fl) (fr' N' : Nat) : Prop where
  dk : Dk w' d m L' fr' N'
  kp : Kp w w' (Ft d m L)
  ft : ∀ i, Ft d m L' i → Ft d m L i ∨ w.heap.size ≤ i
theorem Stp.refl {w : World} {d m fr N : Nat} {L : List Fl} (h : Dk w d m L fr N) : Stp w w d m L L fr N := ⟨h, Kp.refl _ _, fun _ h => Or.inl h⟩
theorem Stp.trans {a b c : World} {d m : Nat} {L L' L'' : List Fl} {x y x' y' : Nat} (h : Stp a b d m L L' x y) (k : Stp b c d m L' L'' x' y') : Stp a c d m L L'' x' y' :=
  ⟨k.dk, h.kp.trans k.kp h.ft, fun i hi => by
    rcases k.ft i hi with e | e
    · exact h.ft i e
    · exact Or.inr (Nat.le_trans h.kp.size e)⟩
theorem Stp.below {a b c : World} {d m : Nat} {L L' : List Fl} {x y : Nat} (h : Stp a b d m L L' x y) (hb : Below b.heap.size b c) : Stp a c d m L L' x y :=
  ⟨h.dk.below hb, h.kp.trans (Kp.of_below (fun _ => False) hb) (fun _ h => h.elim), h.ft⟩
theorem own_shape {w : World} {e : TypeId} {v : Value} {l : List UInt8} (h : w.ownsRow 0 e 1 v l.length (Lib.byteCells l)) : ∃ q cap, v = .slice q l.length cap := by
  obtain ⟨q, cap, hv, _⟩ := own_barg h
  exact ⟨q, cap, hv⟩

set_option maxHeartbeats 1000000 in
theorem New_any (room : Int) (w : World) :
    Calls Tryd.prog 4 #[.int .i64 room] w fun e w' => ∃ d m, e = .returned (.pointer (some ⟨d, 0, none⟩)) ∧ Dk w' d m [] room.toNat 0 ∧ Below w.heap.size w w' ∧ ∀ i, Ft d m [] i → w.heap.size ≤ i := by
  have hmm := @run_makeMap Tryd.prog
  go_enter Tryd.func4, Tryd.ntmps4
  go_wp2
  go_ret
  refine ⟨w.heap.size + 1, w.heap.size, rfl, ?_, ((Below.refl _ _).alloc (Nat.le_refl _) _).alloc (by simp) _, ?_⟩
  · have e : ((room.toNat : Nat) : Int) = max room 0 := by omega
    refine ⟨List.Pairwise.nil, ?_, ⟨0, .map [], Nat.le_refl _, (World.ownsMap_made w _ _ _).alloc _, fun s => rfl, fun s => rfl⟩, by simp, by simp, Nat.le_refl _⟩
    rw [e]
    have := heap_alloc_new (w.alloc (.map #[] 0)) (.cells #[.int .i64 (max room 0), .map (some w.heap.size)] 45 (0, 0))
    simpa using this
  · rintro i (rfl | rfl | ⟨f, hf, _⟩)
    · omega
    · omega
    · simp at hf

/-- What Sync makes of the files. -/
def synL (s : List UInt8) (L : List Fl) : List Fl :=
  match lk s L with
  | none => L
  | some f => wth { f with syn := f.bytes.length } L
set_option maxHeartbeats 1000000 in
theorem Sync_any {d m fr N : Nat} {L : List Fl} (s : List UInt8) (w : World) (h : Dk w d m L fr N) (hl : s.length ≤ maxLen) :
    Calls Tryd.prog 15 #[.pointer (some ⟨d, 0, none⟩), .string (bstr s)] w fun e w' => e = .returned (.int .i64 (fc (lk s L))) ∧ Stp w w' d m L (synL s L) fr N := by
  have hf := find_any s w h hl
  unfold synL
  cases e : lk s L with
  | none =>
    rw [e] at hf
    simp only [pv, fc] at hf
    go_enter Tryd.func15, Tryd.ntmps15
    go_wp2_with fail
    refine hf.mono ?_
    rintro e w1 ⟨rfl, rfl⟩
    go_wp2
    go_ret
    exact ⟨rfl, Stp.refl h⟩
  | some f =>
    rw [e] at hf
    obtain ⟨hm, rfl⟩ := lk_some e
    simp only [pv, fc] at hf ⊢
    have hF := h.fl f hm
    obtain ⟨q, cap, hv⟩ := own_shape hF.own
    have c0 : w.cell? ⟨f.g, 0, none⟩ = some (.slice q f.bytes.length cap) := hv ▸ (cells_block hF.blk).1 0
    have c1 : w.cell? ⟨f.g, 1, none⟩ = some (.int .i64 f.syn) := (cells_block hF.blk).1 1
    have f1 : w.frozen? ⟨f.g, 1, none⟩ = false := (cells_block hF.blk).2 1
    have key : Stp w (w.setCell ⟨f.g, 1, none⟩ (.int .i64 (f.bytes.length : Int))) d m L (wth { f with syn := f.bytes.length } L) fr N := by
      have hrow : ({ f with syn := f.bytes.length } : Fl).v.ownBlock = none ∨ ({ f with syn := f.bytes.length } : Fl).v.ownBlock = f.v.ownBlock ∨ ∃ k, ({ f with syn := f.bytes.length } : Fl).v.ownBlock = some k ∧ w.heap.size ≤ k := Or.inr (Or.inl rfl)
      have hk : ∀ i, i ≠ f.g → (w.setCell ⟨f.g, 1, none⟩ (.int .i64 (f.bytes.length : Int))).heap[i]? = w.heap[i]? := fun i hi => Below.heap_setCell _ _ _ _ hi
      refine ⟨h.write (f' := { f with syn := f.bytes.length }) e rfl rfl ⟨?_, ?_, Nat.le_refl _, hF.nm⟩ hrow (fun i _ hi _ _ => hk i hi) ((hk d (fun e => (h.ne_file hm).1 e.symm)).trans h.blk), Kp.of_grown (grown_setCell w f.g 1 _) (Or.inr (Or.inr ⟨f, hm, Or.inl rfl⟩)), fun i hi => Ft.write (f' := { f with syn := f.bytes.length }) h.srt e rfl hrow hi⟩
      · rw [block_set hF.blk 1]; rfl
      · refine hF.own.kept (grown_setCell w f.g 1 _) ?_
        have := (h.ne_file hm).2.2 f hm
        exact Or.inr this
    clear h hF
    generalize hF : wth { f with syn := f.bytes.length } L = L' at *
    clear hF
    generalize f.bytes.length = n at *
    generalize f.syn = y at *
    generalize f.g = g at *
    go_enter Tryd.func15, Tryd.ntmps15
    go_wp2_with fail
    refine hf.mono ?_
    rintro e w1 ⟨rfl, rfl⟩
    go_wp2
    go_ret
    exact ⟨rfl, key⟩

set_option maxHeartbeats 1000000 in
theorem Sync_zero (d : Nat) (s : List UInt8) (w : World) (c1 : w.cell? ⟨d, 1, none⟩ = some (.map none)) :
    Calls Tryd.prog 15 #[.pointer (some ⟨d, 0, none⟩), .string (bstr s)] w fun e w' => e = .returned (.int .i64 1) ∧ w' = w := by
  go_enter Tryd.func15, Tryd.ntmps15
  go_wp2_with fail
  refine (find_zero d s _ c1).mono ?_
  rintro e w1 ⟨rfl, rfl⟩
  go_wp2
  go_ret
  exact ⟨rfl, rfl⟩

set_option maxHeartbeats 2000000 in
theorem drop_any {d m fr N : Nat} {L : List Fl} (s : List UInt8) (w : World) (h : Dk w d m L fr N) (hl : s.length ≤ maxLen) (hfit : fr + tot L ≤ 9223372036854775807) :
    Calls Tryd.prog 29 #[.pointer (some ⟨d, 0, none⟩), .string (bstr s)] w fun e w' => e = .returned (.tuple #[]) ∧ Stp w w' d m L (wto s L) (fr + (by_ (lk s L)).length) N := by
  have hlk := h.look hl
  have d0 : w.cell? ⟨d, 0, none⟩ = some (.int .i64 (fr : Int)) := (cells_block h.blk).1 0
  have d1 : w.cell? ⟨d, 1, none⟩ = some (.map (some m)) := (cells_block h.blk).1 1
  have df : w.frozen? ⟨d, 0, none⟩ = false := (cells_block h.blk).2 0
  cases e : lk s L with
  | none =>
    have e2 := wto_none e
    rw [e] at hlk
    rw [e2]
    simp only [pv, by_] at hlk ⊢
    go_enter Tryd.func29, Tryd.ntmps29
    go_wp2
    go_end0
    exact ⟨rfl, Stp.refl h⟩
  | some f =>
    rw [e] at hlk
    obtain ⟨hm, rfl⟩ := lk_some e
    simp only [pv, by_] at hlk ⊢
    have hF := h.fl f hm
    obtain ⟨q, cap, hv⟩ := own_shape hF.own
    have c0 : w.cell? ⟨f.g, 0, none⟩ = some (.slice q f.bytes.length cap) := hv ▸ (cells_block hF.blk).1 0
    have hb : fr + f.bytes.length ≤ 9223372036854775807 := by have := tot_mem hm; omega
    have key : Dk (w.setCell ⟨d, 0, none⟩ (.int .i64 ((fr : Int) + (f.bytes.length : Int)))) d m L (fr + f.bytes.length) N :=
      h.free (by rw [block_set h.blk 0]; simp) (fun i _ hi => Below.heap_setCell _ _ _ _ hi)
    have kp1 : Kp w (w.setCell ⟨d, 0, none⟩ (.int .i64 ((fr : Int) + (f.bytes.length : Int)))) (Ft d m L) := Kp.of_grown (grown_setCell w d 0 _) (Or.inl rfl)
    generalize hnm : f.name = s at *
    clear hF hv h
    generalize f.bytes.length = n at *
    generalize f.g = g at *
    go_enter Tryd.func29, Tryd.ntmps29
    go_wp2_with fail
    go_region
    go_wp2_with (at_delete; refine wpList_del key.drew s rfl _ _ rfl rfl rfl hl ?_; intro w2 ht2 hD2)
    go_end0
    exact ⟨rfl, hD2, kp1.drew.trans (Kp.of_grown (S := Ft d m L) ht2.grown (Or.inr (Or.inl rfl))) (fun i hi => Or.inl hi), fun i hi => Or.inl hi.del⟩

end Go.Proofs.YtnfnlfdplnekgaaDoor.Ds

namespace Go.Proofs.YtnfnlfdplnekgaaDoor.Ds
open Go.RowKit

set_option maxHeartbeats 1000000 in
theorem Remove_any {d m fr N : Nat} {L : List Fl} (s : List UInt8) (w : World) (h : Dk w d m L fr N) (hl : s.length ≤ maxLen) (hfit : fr + tot L ≤ 9223372036854775807) :
    Calls Tryd.prog 13 #[.pointer (some ⟨d, 0, none⟩), .string (bstr s)] w fun e w' => e = .returned (.int .i64 (fc (lk s L))) ∧ Stp w w' d m L (wto s L) (fr + (by_ (lk s L)).length) N := by
  have hf := find_any s w h hl
  have hd := drop_any s w h hl hfit
  cases e : lk s L with
  | none =>
    have e2 := wto_none e
    rw [e] at hf
    rw [e2]
    simp only [pv, fc, by_] at hf ⊢
    go_enter Tryd.func13, Tryd.ntmps13
    go_wp2_with fail
    refine hf.mono ?_
    rintro e w1 ⟨rfl, rfl⟩
    go_wp2
    go_ret
    exact ⟨rfl, Stp.refl h⟩
  | some f =>
    rw [e] at hf hd
    simp only [pv, fc, by_] at hf hd ⊢
    generalize f.g = g at *
    generalize f.bytes.length = n at *
    go_enter Tryd.func13, Tryd.ntmps13
    go_wp2_with fail
    refine hf.mono ?_
    rintro e w1 ⟨rfl, rfl⟩
    go_wp2_with fail
    refine hd.mono ?_
    rintro e w1 ⟨rfl, hS⟩
    go_wp2
    go_ret
    exact ⟨rfl, hS⟩

set_option maxHeartbeats 1000000 in
theorem Remove_nil (s : List UInt8) (w : World) :
    Calls Tryd.prog 13 #[.pointer none, .string (bstr s)] w fun e w' => e = .returned (.int .i64 1) ∧ w' = w := by
  go_enter Tryd.func13, Tryd.ntmps13
  go_wp2_with fail
  refine (find_nil s _).mono ?_
  rintro e w1 ⟨rfl, rfl⟩
  go_wp2
  go_ret
  exact ⟨rfl, rfl⟩

set_option maxHeartbeats 1000000 in
theorem Append_nil (s t : List UInt8) (w : World) :
    Calls Tryd.prog 14 #[.pointer none, .string (bstr s), .string (bstr t)] w fun e w' => e = .returned (.int .i64 1) ∧ w' = w := by
  go_enter Tryd.func14, Tryd.ntmps14
  go_wp2_with fail
  refine (none_nil _).mono ?_
  rintro e w1 ⟨rfl, rfl⟩
  go_wp2
  go_ret
  exact ⟨rfl, rfl⟩

set_option maxHeartbeats 1000000 in
theorem Append_zero (d : Nat) (s t : List UInt8) (w : World) (c1 : w.cell? ⟨d, 1, none⟩ = some (.map none)) :
    Calls Tryd.prog 14 #[.pointer (some ⟨d, 0, none⟩), .string (bstr s), .string (bstr t)] w fun e w' => e = .returned (.int .i64 1) ∧ w' = w := by
  go_enter Tryd.func14, Tryd.ntmps14
  go_wp2_with fail
  refine (none_zero d _ c1).mono ?_
  rintro e w1 ⟨rfl, rfl⟩
  go_wp2
  go_ret
  exact ⟨rfl, rfl⟩

set_option maxHeartbeats 1000000 in
theorem Append_arg {d m fr N : Nat} {L : List Fl} (s t : List UInt8) (w : World) (h : Dk w d m L fr N) (hs : okN s = false) :
    Calls Tryd.prog 14 #[.pointer (some ⟨d, 0, none⟩), .string (bstr s), .string (bstr t)] w fun e w' => e = .returned (.int .i64 2) ∧ w' = w := by
  have hn := none_any w h
  have hi := isName_any s w
  rw [hs] at hi
  clear h
  go_enter Tryd.func14, Tryd.ntmps14
  go_wp2_with fail
  refine hn.mono ?_
  rintro e w1 ⟨rfl, rfl⟩
  go_wp2_with fail
  refine hi.mono ?_
  rintro e w1 ⟨rfl, rfl⟩
  go_wp2
  go_ret
  exact ⟨rfl, rfl⟩

set_option maxHeartbeats 1000000 in
theorem Append_full {d m fr N : Nat} {L : List Fl} (s t : List UInt8) (w : World) (h : Dk w d m L fr N) (hs : okN s = true) (ht : fr < t.length) :
    Calls Tryd.prog 14 #[.pointer (some ⟨d, 0, none⟩), .string (bstr s), .string (bstr t)] w fun e w' => e = .returned (.int .i64 7) ∧ w' = w := by
  have hn := none_any w h
  have hi := isName_any s w
  rw [hs] at hi
  have d0 : w.cell? ⟨d, 0, none⟩ = some (.int .i64 (fr : Int)) := (cells_block h.blk).1 0
  have e1 : (bstr t).size = t.length := size_bstr t
  have hg : (fr : Int) < (t.length : Int) := by omega
  clear h
  go_enter Tryd.func14, Tryd.ntmps14
  go_wp2_with fail
  refine hn.mono ?_
  rintro e w1 ⟨rfl, rfl⟩
  go_wp2_with fail
  refine hi.mono ?_
  rintro e w1 ⟨rfl, rfl⟩
  go_wp2
  go_ret
  exact ⟨rfl, rfl⟩

/-- Bytes are put behind a file's, and so many fewer are free. -/
theorem Dk.behind {w w1 : World} {d m fr N : Nat} {L : List Fl} (h : Dk w d m L fr N) {f : Fl} (e : lk f.name L = some f) {t : List UInt8} (ht : t.length ≤ fr) {v' : Value}
    (own1 : w1.ownsRow 0 5 1 v' (f.bytes ++ t).length (Lib.byteCells (f.bytes ++ t))) (grow1 : w.grownBy w1 f.v.ownBlock) (loc1 : v'.ownBlock = none ∨ v'.ownBlock = f.v.ownBlock ∨ ∃ k, v'.ownBlock = some k ∧ w.heap.size ≤ k) :
    Stp w ((w1.setCell ⟨f.g, 0, none⟩ v').setCell ⟨d, 0, none⟩ (.int .i64 ((fr : Int) - (t.length : Int)))) d m L (wth { f with bytes := f.bytes ++ t, v := v' } L) (fr - t.length) N := by
  obtain ⟨hm, _⟩ := lk_some e
  have hF := h.fl f hm
  obtain ⟨n1, n2, n3⟩ := h.ne_file hm
  have hdw : d < w.heap.size := h.lt (Or.inl rfl)
  have hgw : f.g < w.heap.size := h.lt (Or.inr (Or.inr ⟨f, hm, Or.inl rfl⟩))
  have b1 : w1.heap[f.g]? = some (.cells #[f.v, .int .i64 f.syn] 80 (0, 0)) := (grow1.block f.g hgw (fun e => n3 f hm e.symm)).trans hF.blk
  have b2 : w1.heap[d]? = some (.cells #[.int .i64 (fr : Int), .map (some m)] 45 (0, 0)) := (grow1.block d hdw (fun e => (h.ne_row hm).1 e.symm)).trans h.blk
  have hcast : ((fr - t.length : Nat) : Int) = (fr : Int) - (t.length : Int) := by omega
  have k2 : ∀ i, i ≠ f.g → i ≠ d → ((w1.setCell ⟨f.g, 0, none⟩ v').setCell ⟨d, 0, none⟩ (.int .i64 ((fr : Int) - (t.length : Int)))).heap[i]? = w1.heap[i]? := fun i h1 h2 => by
    rw [Below.heap_setCell _ _ _ _ h2, Below.heap_setCell _ _ _ _ h1]
  have hv'g : v'.ownBlock ≠ some f.g := by
    rcases loc1 with a | a | ⟨k, a, b⟩
    · rw [a]; simp
    · rw [a]; exact n3 f hm
    · rw [a]; intro e; cases e; omega
  have hv'd : v'.ownBlock ≠ some d := by
    rcases loc1 with a | a | ⟨k, a, b⟩
    · rw [a]; simp
    · rw [a]; exact (h.ne_row hm).1
    · rw [a]; intro e; cases e; omega
  refine ⟨h.write (f' := { f with bytes := f.bytes ++ t, v := v' }) e rfl rfl ⟨?_, ?_, ?_, hF.nm⟩ loc1 (fun i hi h1 h2 h3 => (k2 i h1 h3).trans (grow1.block i hi (fun e => h2 e.symm))) ?_, ?_, fun i hi => Ft.write (f' := { f with bytes := f.bytes ++ t, v := v' }) h.srt e rfl loc1 hi⟩
  · show ((w1.setCell ⟨f.g, 0, none⟩ v').setCell ⟨d, 0, none⟩ _).heap[f.g]? = _
    rw [Below.heap_setCell _ _ _ _ n1, block_set b1 0]; rfl
  · exact (own1.kept (grown_setCell w1 f.g 0 v') (Or.inr hv'g)).kept (grown_setCell _ d 0 _) (Or.inr hv'd)
  · have := hF.syn
    simp only [List.length_append]; omega
  · rw [hcast]
    have b3 : (w1.setCell ⟨f.g, 0, none⟩ v').heap[d]? = some (.cells #[.int .i64 (fr : Int), .map (some m)] 45 (0, 0)) := (Below.heap_setCell _ _ _ _ (fun e => n1 e.symm)).trans b2
    rw [block_set b3 0]; rfl
  · exact ((Kp.of_grown' (S := Ft d m L) grow1 (fun k hk => Or.inr (Or.inr ⟨f, hm, Or.inr hk⟩))).trans (Kp.of_grown (S := Ft d m L) (grown_setCell w1 f.g 0 v') (Or.inr (Or.inr ⟨f, hm, Or.inl rfl⟩))) (fun _ h => Or.inl h)).trans (Kp.of_grown (S := Ft d m L) (grown_setCell _ d 0 _) (Or.inl rfl)) (fun _ h => Or.inl h)

theorem Tryd.infoU8 : (Tryd.prog.info? 5).map (fun i => (i.zero, i.size, i.bytes)) = some (some (.int .u8 0), 1, 1) := by kernel_rfl

set_option maxHeartbeats 2000000 in
set_option maxRecDepth 100000 in
theorem Append_old {d m fr N : Nat} {L : List Fl} (t : List UInt8) (w : World) (h : Dk w d m L fr N) {f : Fl} (e : lk f.name L = some f) (ht : t.length ≤ fr) (hb : f.bytes.length + t.length ≤ 140737488355328) (hfr : fr ≤ 9223372036854775807) :
    Calls Tryd.prog 14 #[.pointer (some ⟨d, 0, none⟩), .string (bstr f.name), .string (bstr t)] w fun e w' => e = .returned (.int .i64 0) ∧ ∃ v', Stp w w' d m L (wth { f with bytes := f.bytes ++ t, v := v' } L) (fr - t.length) N := by
  obtain ⟨hm, _⟩ := lk_some e
  have hF := h.fl f hm
  have hs : okN f.name = true := by
    unfold okN
    have := hF.nm
    simp [this.1, this.2]
  have hn := none_any w h
  have hi := isName_any f.name w
  rw [hs] at hi
  have hlk := h.look (s := f.name) (by have := hF.nm.2; unfold maxLen; omega)
  rw [e] at hlk
  simp only [pv] at hlk
  have d0 : w.cell? ⟨d, 0, none⟩ = some (.int .i64 (fr : Int)) := (cells_block h.blk).1 0
  have d1 : w.cell? ⟨d, 1, none⟩ = some (.map (some m)) := (cells_block h.blk).1 1
  have c0 : w.cell? ⟨f.g, 0, none⟩ = some f.v := (cells_block hF.blk).1 0
  have e1 : (bstr t).size = t.length := size_bstr t
  have hle : ¬ ((fr : Int) < (t.length : Int)) := by omega
  have hng : d ≠ f.g := fun e => (h.ne_file hm).1 e.symm
  obtain ⟨i0, hi0, hz0, hz1, hz2⟩ := info_parts Tryd.infoU8
  have facts : ∀ w1 : World, w.grownBy w1 f.v.ownBlock → w1.cell? ⟨f.g, 0, none⟩ = some f.v ∧ w1.frozen? ⟨f.g, 0, none⟩ = false ∧ w1.cell? ⟨d, 0, none⟩ = some (.int .i64 (fr : Int)) ∧ w1.frozen? ⟨d, 0, none⟩ = false := fun w1 g1 => by
    have b1 := (g1.block f.g (h.lt (Or.inr (Or.inr ⟨f, hm, Or.inl rfl⟩))) (fun e => (h.ne_file hm).2.2 f hm e.symm)).trans hF.blk
    have b2 := (g1.block d (h.lt (Or.inl rfl)) (fun e => (h.ne_row hm).1 e.symm)).trans h.blk
    exact ⟨(cells_block b1).1 0, (cells_block b1).2 0, (cells_block b2).1 0, (cells_block b2).2 0⟩
  have fin := fun (v' : Value) (w1 : World) o1 g1 l1 => h.behind (w1 := w1) (v' := v') e ht o1 g1 l1
  have own0 := hF.own
  clear hF hm
  generalize hv : f.v = fv at *
  generalize hg : f.g = g at *
  generalize hnm : f.name = nm at *
  go_enter Tryd.func14, Tryd.ntmps14
  go_wp2_with fail
  refine hn.mono ?_
  rintro e w1 ⟨rfl, rfl⟩
  go_wp2_with fail
  refine hi.mono ?_
  rintro e w1 ⟨rfl, rfl⟩
  clear hn hi h
  go_wp2_with (at_builtin; refine wpList_app rfl _ _ 30 9 rfl 5 i0 Tryd.underlying30 Tryd.underlying9 hi0 hz0 hz1 hz2 _ f.bytes t rfl own0 rfl hb ?_; intro v' w1 own1 grow1 loc1; obtain ⟨q1, cap1, rfl⟩ := own_shape own1; obtain ⟨k1, k2, k3, k4⟩ := facts w1 grow1; replace fin := fin _ w1 own1 grow1 loc1; clear own1 grow1 loc1 facts own0 c0 d0)
  go_ret
  rw [List.length_append] at fin
  exact ⟨rfl, _, fin⟩

theorem CClone_any (l : List UInt8) (w : World) (hl : l.length ≤ 281474976710656) :
    Calls Tryd.prog 32 #[.string (bstr l)] w fun e w' => e = .returned (.string (bstr l)) ∧ Below w.heap.size w w' := by
  go_enter Tryd.func32, Tryd.ntmps32
  go_wp2_with fail
  refine (Tryd.stringslite_Clone (bstr l) _ (by rw [size_bstr]; exact hl)).mono ?_
  rintro e w' ⟨rfl, hb⟩
  go_wp2
  go_ret
  exact ⟨rfl, hb⟩

/-- A new file is put to the others. -/
theorem Dk.fresh {w w1 w2 : World} {d m fr N : Nat} {L : List Fl} (h : Dk w d m L fr N) (s : List UInt8) (e : lk s L = none) (hs : 0 < s.length ∧ s.length ≤ 64)
    (b1 : w1.heap[w.heap.size]? = some (.cells #[.slice none 0 0, .int .i64 0] 80 (0, 0))) (hb : Below w.heap.size w w1)
    (ht : w1.mapTurned w2 m) (hm : ∃ n D, n ≤ N + 1 ∧ w2.ownsMap Tryd.prog 9 ptrElem m n D ∧ Mp D (wth ⟨s, [], 0, w.heap.size, .slice none 0 0⟩ L)) :
    Stp w w2 d m L (wth ⟨s, [], 0, w.heap.size, .slice none 0 0⟩ L) fr (N + 1) := by
  have h1 := h.below hb
  refine ⟨h1.add ⟨s, [], 0, w.heap.size, .slice none 0 0⟩ e ⟨b1, World.ownsRow_nil _ _ _ _, Nat.le_refl _, hs⟩ (fun x hx => ⟨fun e => ?_, Or.inl rfl⟩) ht hm, (Kp.of_below _ hb).trans (Kp.of_grown (S := Ft d m L) ht.grown (Or.inr (Or.inl rfl))) (fun _ h => Or.inl h), fun i hi => ?_⟩
  · have := h.lt (Or.inr (Or.inr ⟨x, hx, Or.inl rfl⟩))
    simp only at e
    omega
  · rcases Ft.add h.srt hi with a | a | a
    · exact Or.inl a
    · exact Or.inr (by simp only at a; omega)
    · cases a

set_option maxHeartbeats 4000000 in
set_option maxRecDepth 100000 in
theorem Append_new {d m fr N : Nat} {L : List Fl} (s t : List UInt8) (w : World) (h : Dk w d m L fr N) (e : lk s L = none) (hs : okN s = true) (ht : t.length ≤ fr) (hb : t.length ≤ 140737488355328) (hfr : fr ≤ 9223372036854775807) (hN : N < maxLen) :
    Calls Tryd.prog 14 #[.pointer (some ⟨d, 0, none⟩), .string (bstr s), .string (bstr t)] w fun e w' => e = .returned (.int .i64 0) ∧ ∃ v', Stp w w' d m L (wth ⟨s, t, 0, w.heap.size, v'⟩ L) (fr - t.length) (N + 1) := by
  have hs2 : 0 < s.length ∧ s.length ≤ 64 := by simpa [okN] using hs
  have hn := none_any w h
  have hi := isName_any s w
  rw [hs] at hi
  have hlk := h.look (s := s) (by unfold maxLen; omega)
  rw [e] at hlk
  simp only [pv] at hlk
  have d0 : w.cell? ⟨d, 0, none⟩ = some (.int .i64 (fr : Int)) := (cells_block h.blk).1 0
  have d1 : w.cell? ⟨d, 1, none⟩ = some (.map (some m)) := (cells_block h.blk).1 1
  have e1 : (bstr t).size = t.length := size_bstr t
  have hle : ¬ ((fr : Int) < (t.length : Int)) := by omega
  obtain ⟨i0, hi0, hz0, hz1, hz2⟩ := info_parts Tryd.infoU8
  go_enter Tryd.func14, Tryd.ntmps14
  go_wp2_with fail
  refine hn.mono ?_
  rintro e w1 ⟨rfl, rfl⟩
  go_wp2_with fail
  refine hi.mono ?_
  rintro e w1 ⟨rfl, rfl⟩
  clear hn hi
  go_wp2_with fail
  have hB0 : Below w1.heap.size w1 (w1.alloc (.cells #[.slice none 0 0, .int .i64 0] 80)) := (Below.refl _ _).alloc (Nat.le_refl _) _
  have hb0 : (w1.alloc (.cells #[.slice none 0 0, .int .i64 0] 80)).heap[w1.heap.size]? = some (.cells #[.slice none 0 0, .int .i64 0] 80 (0, 0)) := heap_alloc_new w1 _
  generalize w1.alloc (.cells #[.slice none 0 0, .int .i64 0] 80) = W at *
  have hD := h.below hB0
  have dW : W.cell? ⟨d, 1, none⟩ = some (.map (some m)) := (cells_block hD.blk).1 1
  have hbz : w1.heap.size < W.heap.size := (Array.getElem?_eq_some_iff.1 hb0).1
  go_region_held3 (fun w' => w'.cell? ⟨d, 1, none⟩ = some (.map (some m))) (first | with_reducible exact dW | with_reducible exact dV | go_keep)
    ((go_at_call 32; refine (CClone_any s _ (by omega)).mono ?_; rintro e wf ⟨rfl, hbf⟩; have hDf : Dk wf d m L fr N := hD.drew.below hbf; clear dW; have dW : wf.cell? ⟨d, 1, none⟩ = some (.map (some m)) := (cells_block hDf.blk).1 1; have hBf : Below w1.heap.size w1 wf := b_step hB0.drew hbf (Nat.le_refl _); have hbF := (hbf.block _ hbz).trans hb0; clear hbf; obtain ⟨w2, hrun, ht2, hm2⟩ := hDf.stores ⟨s, [], 0, w1.heap.size, .slice none 0 0⟩ hN (by simp only [maxLen]; omega); simp only at hrun; have dV : w2.cell? ⟨d, 1, none⟩ = some (.map (some m)) := (World.cell?_of_block (ht2.grown.block d (hDf.lt (Or.inl rfl)) (fun e => hDf.ne (by cases e; rfl)))).trans dW))
  have hS := h.fresh s e hs2 hbF hBf ht2 hm2
  clear ht2 hm2 hDf hBf hbF hrun dV
  have hD2 := hS.dk
  have e0 : lk (Fl.name ⟨s, [], 0, w1.heap.size, .slice none 0 0⟩) (wth ⟨s, [], 0, w1.heap.size, .slice none 0 0⟩ L) = some ⟨s, [], 0, w1.heap.size, .slice none 0 0⟩ := lk_wth_same h.srt _
  obtain ⟨hm, _⟩ := lk_some e0
  have hF := hD2.fl _ hm
  clear d0 d1 hlk hD dW hB0 hb0 hbz
  have c0 : w2.cell? ⟨w1.heap.size, 0, none⟩ = some (.slice none 0 0) := (cells_block hF.blk).1 0
  have hng : d ≠ w1.heap.size := fun e => (hD2.ne_file hm).1 e.symm
  have facts : ∀ w3 : World, w2.grownBy w3 (Value.ownBlock (.slice none 0 0)) → w3.cell? ⟨w1.heap.size, 0, none⟩ = some (.slice none 0 0) ∧ w3.frozen? ⟨w1.heap.size, 0, none⟩ = false ∧ w3.cell? ⟨d, 0, none⟩ = some (.int .i64 (fr : Int)) ∧ w3.frozen? ⟨d, 0, none⟩ = false := fun w3 g1 => by
    have b1 := (g1.block w1.heap.size (hD2.lt (Or.inr (Or.inr ⟨_, hm, Or.inl rfl⟩))) (fun e => by cases e)).trans hF.blk
    have b2 := (g1.block d (hD2.lt (Or.inl rfl)) (fun e => by cases e)).trans hD2.blk
    exact ⟨(cells_block b1).1 0, (cells_block b1).2 0, (cells_block b2).1 0, (cells_block b2).2 0⟩
  have fin := fun (v' : Value) (w3 : World) o1 g1 l1 => hD2.behind (w1 := w3) (v' := v') e0 ht o1 g1 l1
  have own0 := hF.own
  clear hF hm e0 hD2
  generalize hg : w1.heap.size = g at *
  go_wp2_with (at_builtin; refine wpList_app rfl _ _ 30 9 rfl 5 i0 Tryd.underlying30 Tryd.underlying9 hi0 hz0 hz1 hz2 _ [] t rfl own0 rfl (by simpa using hb) ?_; intro v' w3 own1 grow1 loc1; obtain ⟨q1, cap1, rfl⟩ := own_shape own1; obtain ⟨k1, k2, k3, k4⟩ := facts w3 grow1; replace fin := fin _ w3 own1 grow1 loc1; clear own1 grow1 loc1 facts own0 c0)
  go_ret
  simp only [List.nil_append] at fin
  have fin2 := hS.trans fin
  rw [wth_wth (by rfl)] at fin2
  exact ⟨rfl, _, fin2⟩

end Go.Proofs.YtnfnlfdplnekgaaDoor.Ds

namespace Go.Proofs.YtnfnlfdplnekgaaDoor.Ds
open Go.RowKit

/-- How many bytes of it are synced. -/
def syN : Option Fl → Nat
  | none => 0
  | some f => f.syn
theorem sy_syN (o : Option Fl) : sy o = (syN o : Int) := by cases o <;> rfl

theorem Append_ok {d m fr N : Nat} {L : List Fl} (s t : List UInt8) (w : World) (h : Dk w d m L fr N) (hs : okN s = true) (ht : t.length ≤ fr) (hb : tot L + t.length ≤ 140737488355328) (hfr : fr ≤ 9223372036854775807) (hN : N < maxLen) :
    Calls Tryd.prog 14 #[.pointer (some ⟨d, 0, none⟩), .string (bstr s), .string (bstr t)] w fun e w' => e = .returned (.int .i64 0) ∧ ∃ f' : Fl, f'.name = s ∧ f'.bytes = by_ (lk s L) ++ t ∧ f'.syn = syN (lk s L) ∧ Stp w w' d m L (wth f' L) (fr - t.length) (N + 1) := by
  cases e : lk s L with
  | none =>
    refine (Append_new s t w h e hs ht (by omega) hfr hN).mono ?_
    rintro e w' ⟨rfl, v', hS⟩
    exact ⟨rfl, ⟨s, t, 0, w.heap.size, v'⟩, rfl, rfl, rfl, hS⟩
  | some f =>
    obtain ⟨hm, rfl⟩ := lk_some e
    refine (Append_old t w h e ht (by have := tot_mem hm; omega) hfr).mono ?_
    rintro e w' ⟨rfl, v', hS⟩
    exact ⟨rfl, { f with bytes := f.bytes ++ t, v := v' }, rfl, rfl, rfl, hS.dk.mono (Nat.le_succ _), hS.kp, hS.ft⟩

set_option maxHeartbeats 1000000 in
theorem Rename_nil (s t : List UInt8) (w : World) :
    Calls Tryd.prog 16 #[.pointer none, .string (bstr s), .string (bstr t)] w fun e w' => e = .returned (.int .i64 1) ∧ w' = w := by
  go_enter Tryd.func16, Tryd.ntmps16
  go_wp2_with fail
  refine (find_nil s _).mono ?_
  rintro e w1 ⟨rfl, rfl⟩
  go_wp2
  go_ret
  exact ⟨rfl, rfl⟩

set_option maxHeartbeats 1000000 in
theorem Rename_none {d m fr N : Nat} {L : List Fl} (s t : List UInt8) (w : World) (h : Dk w d m L fr N) (hl : s.length ≤ maxLen) (e : lk s L = none) :
    Calls Tryd.prog 16 #[.pointer (some ⟨d, 0, none⟩), .string (bstr s), .string (bstr t)] w fun e w' => e = .returned (.int .i64 5) ∧ w' = w := by
  have hf := find_any s w h hl
  rw [e] at hf
  simp only [pv, fc] at hf
  go_enter Tryd.func16, Tryd.ntmps16
  go_wp2_with fail
  refine hf.mono ?_
  rintro e w1 ⟨rfl, rfl⟩
  go_wp2
  go_ret
  exact ⟨rfl, rfl⟩

set_option maxHeartbeats 1000000 in
theorem Rename_arg {d m fr N : Nat} {L : List Fl} (s t : List UInt8) (w : World) (h : Dk w d m L fr N) (hl : s.length ≤ maxLen) {f : Fl} (e : lk s L = some f) (ht : okN t = false) :
    Calls Tryd.prog 16 #[.pointer (some ⟨d, 0, none⟩), .string (bstr s), .string (bstr t)] w fun e w' => e = .returned (.int .i64 2) ∧ w' = w := by
  have hf := find_any s w h hl
  rw [e] at hf
  simp only [pv, fc] at hf
  have hi := isName_any t w
  rw [ht] at hi
  generalize f.g = g at *
  go_enter Tryd.func16, Tryd.ntmps16
  go_wp2_with fail
  refine hf.mono ?_
  rintro e w1 ⟨rfl, rfl⟩
  go_wp2_with fail
  refine hi.mono ?_
  rintro e w1 ⟨rfl, rfl⟩
  go_wp2
  go_ret
  exact ⟨rfl, rfl⟩

set_option maxHeartbeats 1000000 in
theorem Rename_same {d m fr N : Nat} {L : List Fl} (s : List UInt8) (w : World) (h : Dk w d m L fr N) (hl : s.length ≤ maxLen) {f : Fl} (e : lk s L = some f) :
    Calls Tryd.prog 16 #[.pointer (some ⟨d, 0, none⟩), .string (bstr s), .string (bstr s)] w fun e w' => e = .returned (.int .i64 0) ∧ w' = w := by
  have hf := find_any s w h hl
  have hs : okN s = true := by
    obtain ⟨hm, rfl⟩ := lk_some e
    unfold okN
    have := (h.fl f hm).nm
    simp [this.1, this.2]
  rw [e] at hf
  simp only [pv, fc] at hf
  have hi := isName_any s w
  rw [hs] at hi
  generalize f.g = g at *
  go_enter Tryd.func16, Tryd.ntmps16
  go_wp2_with fail
  refine hf.mono ?_
  rintro e w1 ⟨rfl, rfl⟩
  go_wp2_with fail
  refine hi.mono ?_
  rintro e w1 ⟨rfl, rfl⟩
  go_wp2
  go_ret
  exact ⟨rfl, rfl⟩

theorem grown_drew {a b : World} {r : Option Nat} (h : a.grownBy b r) : a.grownBy b.drew r := ⟨h.os, h.tape, h.output, h.size, h.block⟩
/-- A file that was taken out is put back under another name. -/
theorem Dk.renamed {w w1 w2 wf w3 : World} {d m fr fr' N : Nat} {L : List Fl} (h : Dk w d m L fr N) {f : Fl} {s t : List UInt8} (e : lk s L = some f) (hst : s ≠ t) (ht : 0 < t.length ∧ t.length ≤ 64)
    (h1 : Stp w w1 d m L (wto t L) fr' N) (hD2 : Dk w2 d m (wto s (wto t L)) fr' N) (g2 : w1.grownBy w2 (some m)) (hbf : Below w2.heap.size w2 wf) (ht3 : wf.mapTurned w3 m)
    (hm : ∃ n D, n ≤ N + 1 ∧ w3.ownsMap Tryd.prog 9 ptrElem m n D ∧ Mp D (wth { f with name := t } (wto s (wto t L)))) :
    Stp w w3 d m L (wth { f with name := t } (wto s (wto t L))) fr' (N + 1) := by
  obtain ⟨hm0, hn0⟩ := lk_some e
  have hm1 : f ∈ wto t L := wto_mem.2 ⟨hm0, by rw [hn0]; exact hst⟩
  have hF1 := h1.dk.fl f hm1
  have hDf := hD2.below hbf
  have hF2 : FlAt w2 f := by
    have hmb : ∀ (i : Nat) (cur : Array Value) (ty : TypeId), w1.heap[i]? = some (.cells cur ty (0, 0)) → w2.heap[i]? = w1.heap[i]? := fun i cur ty hi => g2.block i (Array.getElem?_eq_some_iff.1 hi).1 (fun e => by
      cases e
      obtain ⟨n, D, _, ⟨es, c, hb, _⟩, _⟩ := h1.dk.mp
      rw [hb] at hi
      cases hi)
    exact hF1.kept (hmb _ _ _ hF1.blk) (fun i hi => by
      obtain ⟨cur, hc⟩ := own_lt hF1.own hi
      exact hmb i _ _ hc)
  have hFf : FlAt wf f := by
    refine hF2.kept (hbf.block _ (Array.getElem?_eq_some_iff.1 hF2.blk).1) (fun i hi => ?_)
    obtain ⟨cur, hc⟩ := own_lt hF2.own hi
    exact hbf.block i (Array.getElem?_eq_some_iff.1 hc).1
  refine ⟨hDf.add { f with name := t } (lk_eq_none fun x hx => (wto_mem.1 (wto_mem.1 hx).1).2) ⟨hFf.blk, hFf.own, hFf.syn, ht⟩ (fun x hx => ?_) ht3 hm, ?_, fun i hi => ?_⟩
  · have hx2 := wto_mem.1 hx
    have hx1 := (wto_mem.1 hx2.1).1
    exact h.apart f hm0 x hx1 (by rw [hn0]; exact fun e => hx2.2 e.symm)
  · exact ((h1.kp.trans (Kp.of_grown (S := Ft d m L) g2 (Or.inr (Or.inl rfl))) (fun _ h => Or.inl h)).trans (Kp.of_below (Ft d m L) hbf) (fun _ h => Or.inl h)).trans (Kp.of_grown (S := Ft d m L) ht3.grown (Or.inr (Or.inl rfl))) (fun _ h => Or.inl h)
  · rcases Ft.add hD2.srt hi with a | a | a
    · exact Or.inl a.del.del
    · exact Or.inl (Or.inr (Or.inr ⟨f, hm0, Or.inl a⟩))
    · exact Or.inl (Or.inr (Or.inr ⟨f, hm0, Or.inr a⟩))

set_option maxHeartbeats 4000000 in
set_option maxRecDepth 100000 in
theorem Rename_ok {d m fr N : Nat} {L : List Fl} (s t : List UInt8) (w : World) (h : Dk w d m L fr N) (hl : s.length ≤ maxLen) {f : Fl} (e : lk s L = some f) (hst : s ≠ t) (ht : okN t = true) (hfit : fr + tot L ≤ 9223372036854775807) (hN : N < maxLen) :
    Calls Tryd.prog 16 #[.pointer (some ⟨d, 0, none⟩), .string (bstr s), .string (bstr t)] w fun e w' => e = .returned (.int .i64 0) ∧ Stp w w' d m L (wth { f with name := t } (wto s (wto t L))) (fr + (by_ (lk t L)).length) (N + 1) := by
  have hf := find_any s w h hl
  rw [e] at hf
  simp only [pv, fc] at hf
  have ht2 : 0 < t.length ∧ t.length ≤ 64 := by simpa [okN] using ht
  have hi := isName_any t w
  rw [ht] at hi
  have hd := drop_any t w h (by unfold maxLen; omega) hfit
  have fin := fun (w1 w2 wf w3 : World) => h.renamed (w1 := w1) (w2 := w2) (wf := wf) (w3 := w3) (fr' := fr + (by_ (lk t L)).length) e hst ht2
  have hb3 : ((bstr s).toList == (bstr t).toList) = false := by rw [toList_bstr, toList_bstr]; simpa using hst
  generalize fr + (by_ (lk t L)).length = fr' at *
  generalize hg : f.g = g at *
  go_enter Tryd.func16, Tryd.ntmps16
  go_wp2_with fail
  refine hf.mono ?_
  rintro e w1 ⟨rfl, rfl⟩
  go_wp2_with fail
  refine hi.mono ?_
  rintro e w1 ⟨rfl, rfl⟩
  go_wp2_with fail
  refine hd.mono ?_
  rintro e w1 ⟨rfl, hS1⟩
  have hD1 := hS1.dk
  have d1 : w1.cell? ⟨d, 1, none⟩ = some (.map (some m)) := (cells_block hD1.blk).1 1
  clear hf hi hd h
  go_wp2_with (at_delete; refine wpList_del hD1 s rfl _ _ rfl rfl rfl hl ?_; intro w2 ht2 hD2; clear d1; have dW : w2.cell? ⟨d, 1, none⟩ = some (.map (some m)) := (cells_block hD2.blk).1 1)
  go_region_held3 (fun w' => w'.cell? ⟨d, 1, none⟩ = some (.map (some m))) (first | with_reducible exact dW | with_reducible exact dV | go_keep)
    ((go_at_call 32; refine (CClone_any t _ (by omega)).mono ?_; rintro e wf ⟨rfl, hbf⟩; have hDf : Dk wf d m (wto s (wto t L)) fr' N := hD2.drew.below hbf; clear dW; have dW : wf.cell? ⟨d, 1, none⟩ = some (.map (some m)) := (cells_block hDf.blk).1 1; obtain ⟨w3, hrun, ht3, hm3⟩ := hDf.stores { f with name := t } hN (by simp only [maxLen]; omega); simp only [hg] at hrun; have dV : w3.cell? ⟨d, 1, none⟩ = some (.map (some m)) := (World.cell?_of_block (ht3.grown.block d (hDf.lt (Or.inl rfl)) (fun e => hDf.ne (by cases e; rfl)))).trans dW))
  go_wp2
  go_ret
  subst hg
  exact ⟨rfl, fin w1 w2.drew wf w3 hS1 hD2.drew (grown_drew ht2.grown) hbf ht3 hm3⟩

end Go.Proofs.YtnfnlfdplnekgaaDoor.Ds
