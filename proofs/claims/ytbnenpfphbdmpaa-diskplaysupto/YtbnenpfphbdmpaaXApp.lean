/-
  The contracts of disk.New, Sync, drop, Remove.
-/
import Derived.Test.YtbnenpfphbdmpaaXFn
import Derived.Deep.RegionHeld3
namespace Go.Proofs.Ytbnenpfphbdmpaa
open Go.RowKit

/-- What a call makes of a disk. -/
structure Stp (w w' : World) (d m : Nat) (L L' : List Fl) (fr' N' : Nat) : Prop where
  dk : Dk w' d m L' fr' N'
  kp : Kp w w' (Ft d m L)
  ft : ∀ i, Ft d m L' i → Ft d m L i ∨ w.heap.size ≤ i
theorem Stp.refl {w : World} {d m fr N : Nat} {L : List Fl} (h : Dk w d m L fr N) : Stp w w d m L L fr N := ⟨h, Kp.refl _ _, fun _ h => Or.inl h⟩
theorem Stp.trans {a b c : World} {d m : Nat} {L L' L'' : List Fl} {x y x' y' : Nat} (h : Stp a b d m L L' x y) (k : Stp b c d m L' L'' x' y') : Stp a c d m L L'' x' y' :=
  ⟨k.dk, h.kp.trans k.kp h.ft, fun i hi => by
    rcases k.ft i hi with e | e
    · exact h.ft i e
    · exact Or.inr (Nat.le_trans h.kp.size e)⟩
theorem Stp.below {a b c : World} {d m : Nat} {L L' : List Fl} {x y : Nat} (h : Stp a b d m L L' x y) (hb : Below b.heap.size b c) : Stp a c d m L L' x y :=
  ⟨h.dk.below hb, h.kp.trans (Kp.of_below (fun _ => False) hb) (fun _ h => h.elim), h.ft⟩
theorem own_shape {w : World} {e : TypeId} {v : Value} {l : List UInt8} (h : w.ownsRow 0 e 1 v l.length (Lib.byteCells l)) : ∃ q cap, v = .slice q l.length cap := by
  obtain ⟨q, cap, hv, _⟩ := own_barg h
  exact ⟨q, cap, hv⟩

set_option maxHeartbeats 1000000 in
theorem New_any (room : Int) (w : World) :
    Calls Try.prog 8 #[.int .i64 room] w fun e w' => ∃ d m, e = .returned (.pointer (some ⟨d, 0, none⟩)) ∧ Dk w' d m [] room.toNat 0 ∧ Below w.heap.size w w' ∧ ∀ i, Ft d m [] i → w.heap.size ≤ i := by
  have hmm := @run_makeMap Try.prog
  go_enter Try.func8, Try.ntmps8
  go_wp2
  go_ret
  refine ⟨w.heap.size + 1, w.heap.size, rfl, ?_, ((Below.refl _ _).alloc (Nat.le_refl _) _).alloc (by simp) _, ?_⟩
  · have e : ((room.toNat : Nat) : Int) = max room 0 := by omega
    refine ⟨List.Pairwise.nil, ?_, ⟨0, .map [], Nat.le_refl _, (World.ownsMap_made w _ _ _).alloc _, fun s => rfl, fun s => rfl⟩, by simp, by simp, Nat.le_refl _⟩
    rw [e]
    have := heap_alloc_new (w.alloc (.map #[] 0)) (.cells #[.int .i64 (max room 0), .map (some w.heap.size)] 61 (0, 0))
    simpa using this
  · rintro i (rfl | rfl | ⟨f, hf, _⟩)
    · omega
    · omega
    · simp at hf

/-- What Sync makes of the files. -/
def synL (s : List UInt8) (L : List Fl) : List Fl :=
  match lk s L with
  | none => L
  | some f => wth { f with syn := f.bytes.length } L
set_option maxHeartbeats 1000000 in
theorem Sync_any {d m fr N : Nat} {L : List Fl} (s : List UInt8) (w : World) (h : Dk w d m L fr N) (hl : s.length ≤ maxLen) :
    Calls Try.prog 21 #[.pointer (some ⟨d, 0, none⟩), .string (bstr s)] w fun e w' => e = .returned (.int .i64 (fc (lk s L))) ∧ Stp w w' d m L (synL s L) fr N := by
  have hf := find_any s w h hl
  unfold synL
  cases e : lk s L with
  | none =>
    rw [e] at hf
    simp only [pv, fc] at hf
    go_enter Try.func21, Try.ntmps21
    go_wp2_with fail
    refine hf.mono ?_
    rintro e w1 ⟨rfl, rfl⟩
    go_wp2
    go_ret
    exact ⟨rfl, Stp.refl h⟩
  | some f =>
    rw [e] at hf
    obtain ⟨hm, rfl⟩ := lk_some e
    simp only [pv, fc] at hf ⊢
    have hF := h.fl f hm
    obtain ⟨q, cap, hv⟩ := own_shape hF.own
    have c0 : w.cell? ⟨f.g, 0, none⟩ = some (.slice q f.bytes.length cap) := hv ▸ (cells_block hF.blk).1 0
    have c1 : w.cell? ⟨f.g, 1, none⟩ = some (.int .i64 f.syn) := (cells_block hF.blk).1 1
    have f1 : w.frozen? ⟨f.g, 1, none⟩ = false := (cells_block hF.blk).2 1
    have key : Stp w (w.setCell ⟨f.g, 1, none⟩ (.int .i64 (f.bytes.length : Int))) d m L (wth { f with syn := f.bytes.length } L) fr N := by
      have hrow : ({ f with syn := f.bytes.length } : Fl).v.ownBlock = none ∨ ({ f with syn := f.bytes.length } : Fl).v.ownBlock = f.v.ownBlock ∨ ∃ k, ({ f with syn := f.bytes.length } : Fl).v.ownBlock = some k ∧ w.heap.size ≤ k := Or.inr (Or.inl rfl)
      have hk : ∀ i, i ≠ f.g → (w.setCell ⟨f.g, 1, none⟩ (.int .i64 (f.bytes.length : Int))).heap[i]? = w.heap[i]? := fun i hi => Below.heap_setCell _ _ _ _ hi
      refine ⟨h.write (f' := { f with syn := f.bytes.length }) e rfl rfl ⟨?_, ?_, Nat.le_refl _, hF.nm⟩ hrow (fun i _ hi _ _ => hk i hi) ((hk d (fun e => (h.ne_file hm).1 e.symm)).trans h.blk), Kp.of_grown (grown_setCell w f.g 1 _) (Or.inr (Or.inr ⟨f, hm, Or.inl rfl⟩)), fun i hi => Ft.write (f' := { f with syn := f.bytes.length }) h.srt e rfl hrow hi⟩
      · rw [block_set hF.blk 1]; rfl
      · refine hF.own.kept (grown_setCell w f.g 1 _) ?_
        have := (h.ne_file hm).2.2 f hm
        exact Or.inr this
    clear h hF
    generalize hF : wth { f with syn := f.bytes.length } L = L' at *
    clear hF
    generalize f.bytes.length = n at *
    generalize f.syn = y at *
    generalize f.g = g at *
    go_enter Try.func21, Try.ntmps21
    go_wp2_with fail
    refine hf.mono ?_
    rintro e w1 ⟨rfl, rfl⟩
    go_wp2
    go_ret
    exact ⟨rfl, key⟩

set_option maxHeartbeats 1000000 in
theorem Sync_zero (d : Nat) (s : List UInt8) (w : World) (c1 : w.cell? ⟨d, 1, none⟩ = some (.map none)) :
    Calls Try.prog 21 #[.pointer (some ⟨d, 0, none⟩), .string (bstr s)] w fun e w' => e = .returned (.int .i64 1) ∧ w' = w := by
  go_enter Try.func21, Try.ntmps21
  go_wp2_with fail
  refine (find_zero d s _ c1).mono ?_
  rintro e w1 ⟨rfl, rfl⟩
  go_wp2
  go_ret
  exact ⟨rfl, rfl⟩

set_option maxHeartbeats 2000000 in
theorem drop_any {d m fr N : Nat} {L : List Fl} (s : List UInt8) (w : World) (h : Dk w d m L fr N) (hl : s.length ≤ maxLen) (hfit : fr + tot L ≤ 9223372036854775807) :
    Calls Try.prog 41 #[.pointer (some ⟨d, 0, none⟩), .string (bstr s)] w fun e w' => e = .returned (.tuple #[]) ∧ Stp w w' d m L (wto s L) (fr + (by_ (lk s L)).length) N := by
  have hlk := h.look hl
  have d0 : w.cell? ⟨d, 0, none⟩ = some (.int .i64 (fr : Int)) := (cells_block h.blk).1 0
  have d1 : w.cell? ⟨d, 1, none⟩ = some (.map (some m)) := (cells_block h.blk).1 1
  have df : w.frozen? ⟨d, 0, none⟩ = false := (cells_block h.blk).2 0
  cases e : lk s L with
  | none =>
    have e2 := wto_none e
    rw [e] at hlk
    rw [e2]
    simp only [pv, by_] at hlk ⊢
    go_enter Try.func41, Try.ntmps41
    go_wp2
    go_end0
    exact ⟨rfl, Stp.refl h⟩
  | some f =>
    rw [e] at hlk
    obtain ⟨hm, rfl⟩ := lk_some e
    simp only [pv, by_] at hlk ⊢
    have hF := h.fl f hm
    obtain ⟨q, cap, hv⟩ := own_shape hF.own
    have c0 : w.cell? ⟨f.g, 0, none⟩ = some (.slice q f.bytes.length cap) := hv ▸ (cells_block hF.blk).1 0
    have hb : fr + f.bytes.length ≤ 9223372036854775807 := by have := tot_mem hm; omega
    have key : Dk (w.setCell ⟨d, 0, none⟩ (.int .i64 ((fr : Int) + (f.bytes.length : Int)))) d m L (fr + f.bytes.length) N :=
      h.free (by rw [block_set h.blk 0]; simp) (fun i _ hi => Below.heap_setCell _ _ _ _ hi)
    have kp1 : Kp w (w.setCell ⟨d, 0, none⟩ (.int .i64 ((fr : Int) + (f.bytes.length : Int)))) (Ft d m L) := Kp.of_grown (grown_setCell w d 0 _) (Or.inl rfl)
    generalize hnm : f.name = s at *
    clear hF hv h
    generalize f.bytes.length = n at *
    generalize f.g = g at *
    go_enter Try.func41, Try.ntmps41
    go_wp2_with fail
    go_region
    go_wp2_with (at_delete; refine wpList_del key.drew s rfl _ _ rfl rfl rfl hl ?_; intro w2 ht2 hD2)
    go_end0
    exact ⟨rfl, hD2, kp1.drew.trans (Kp.of_grown (S := Ft d m L) ht2.grown (Or.inr (Or.inl rfl))) (fun i hi => Or.inl hi), fun i hi => Or.inl hi.del⟩

end Go.Proofs.Ytbnenpfphbdmpaa
