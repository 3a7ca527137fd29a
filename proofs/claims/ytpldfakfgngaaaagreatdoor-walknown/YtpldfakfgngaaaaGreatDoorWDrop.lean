/-
  The first files of a log given up: in memory, as lists; the contract of Drop.
-/
import Derived.Test.YtpldfakfgngaaaaGreatDoorGMid
namespace Go.Proofs.YtpldfakfgngaaaaGreatDoor
open Go.RowKit
attribute [local go_sem] size_bstr toList_bstr append_bstr

theorem Rw.tail {w : World} {e : TypeId} {v x : Value} {xs : List Value} (h : Rw w e v (x :: xs)) (z : Value) :
    ∃ g off cap, v = .slice (some ⟨g, off, none⟩) (xs.length + 1) cap ∧ xs.length + 1 ≤ cap ∧ w.cell? ⟨g, off, none⟩ = some x ∧ w.frozen? ⟨g, off, none⟩ = false ∧ Rw (w.setCell ⟨g, off, none⟩ z) e (.slice (some ⟨g, off + 1, none⟩) xs.length (cap - 1)) xs := by
  rcases h with ⟨_, h0⟩ | ⟨g, off, cap, cur, rfl, hg, h1, h2, h3⟩
  · cases h0
  · rw [List.length_cons] at h1
    refine ⟨g, off, cap, rfl, h1, ?_, (cells_block hg).2 off, Or.inr ⟨g, off + 1, cap - 1, _, rfl, block_set hg off z, by omega, by rw [Array.size_setIfInBounds]; omega, fun i hi => ?_⟩⟩
    · rw [cell_of_row w g off cur e _ hg]
      exact h3 0 (by simp)
    · rw [Array.getElem?_setIfInBounds_ne (by omega)]
      have := h3 (i + 1) (by simp; omega)
      rw [show off + 1 + i = off + (i + 1) by omega, this]
      rfl
theorem Rw.init {w : World} {e : TypeId} {v x : Value} {xs : List Value} (h : Rw w e v (xs ++ [x])) (z : Value) :
    ∃ g off cap, v = .slice (some ⟨g, off, none⟩) (xs.length + 1) cap ∧ xs.length + 1 ≤ cap ∧ w.cell? ⟨g, off + xs.length, none⟩ = some x ∧ w.frozen? ⟨g, off + xs.length, none⟩ = false ∧ Rw (w.setCell ⟨g, off + xs.length, none⟩ z) e (.slice (some ⟨g, off, none⟩) xs.length cap) xs := by
  rcases h with ⟨_, h0⟩ | ⟨g, off, cap, cur, rfl, hg, h1, h2, h3⟩
  · simp at h0
  · have hl : (xs ++ [x]).length = xs.length + 1 := by simp
    rw [hl] at h1
    refine ⟨g, off, cap, by rw [hl], h1, ?_, (cells_block hg).2 _, Or.inr ⟨g, off, cap, _, rfl, block_set hg (off + xs.length) z, by omega, by rw [Array.size_setIfInBounds]; omega, fun i hi => ?_⟩⟩
    · rw [cell_of_row w g _ cur e _ hg]
      have := h3 xs.length (by rw [hl]; omega)
      simpa using this
    · rw [Array.getElem?_setIfInBounds_ne (by omega), h3 i (by rw [hl]; omega), List.getElem_append_left hi]
/-- A log with some of its files only: their row lies in the same block. -/
theorem Wm.sub {w w2 : World} {k : Wk} {F F' : List Wf} {v v' : Value} (h : Wm w k F v) (hs : F'.Sublist F) (hblk : w2.heap[k.g]? = some (.cells #[.pointer (some ⟨k.d, 0, none⟩), .string (bstr k.p), .int .i64 k.most, k.fn, v'] 84 (0, 0)))
    (hkeep : ∀ i, i ≠ k.g → v.ownBlock ≠ some i → w2.heap[i]? = w.heap[i]?) (hrow : Rw w2 100 v' (ptrV F')) : Wm w2 k F' v' := by
  have vne : ∀ {i : Nat} {cur : Array Value} {t : TypeId} {x : Nat × Nat}, w.heap[i]? = some (.cells cur t x) → t ≠ 100 → v.ownBlock ≠ some i := fun {i cur t x} hi ht e => by
    obtain ⟨cur', hc⟩ := h.row.blk e
    rw [hi] at hc
    cases hc
    exact ht rfl
  have gne : ∀ {i : Nat} {cur : Array Value} {t : TypeId} {x : Nat × Nat}, w.heap[i]? = some (.cells cur t x) → t ≠ 84 → i ≠ k.g := fun {i cur t x} hi ht e => by
    rw [e, h.blk] at hi
    cases hi
    exact ht rfl
  refine ⟨hblk, ?_, ?_, hrow, fun f hf => ?_, h.gs.sublist hs, h.rs.sublist hs, fun f hf => h.nb f (hs.subset hf)⟩
  · rw [hkeep _ (gne h.ca (by decide)) (vne h.ca (by decide))]; exact h.ca
  · rw [hkeep _ (gne h.cb (by decide)) (vne h.cb (by decide))]; exact h.cb
  · have hF := h.fl f (hs.subset hf)
    refine hF.kept (hkeep _ (gne hF.blk (by decide)) (vne hF.blk (by decide))) (fun i hi => ?_)
    obtain ⟨cur, hc⟩ := hF.row.blk hi
    exact hkeep i (gne hc (by decide)) (vne hc (by decide))
/-- Behind 'w.files[i] = nil; w.files = ..'. -/
theorem Lo.sub {B : Nat} {w w2 : World} {m fr N : Nat} {L : List Fl} {k : Wk} {F F' : List Wf} {v v' : Value} {g o : Nat} {z : Value} (h : Lo B w m L fr N k F v) (hs : F'.Sublist F) (hv : v.ownBlock = some g) (hv' : v'.ownBlock = some g) (h2 : w2 = (w.setCell ⟨g, o, none⟩ z).setCell ⟨k.g, 4, none⟩ v')
    (hrow : Rw (w.setCell ⟨g, o, none⟩ z) 100 v' (ptrV F')) : Lo B w2 m L fr N k F' v' ∧ Kp w w2 (Fw k F v) ∧ ∀ i, Fw k F' v' i → Fw k F v i := by
  have hgk : g ≠ k.g := fun e => by
    obtain ⟨cur, hc⟩ := h.wm.row.blk hv
    rw [e, h.wm.blk] at hc
    cases hc
  have hset : ∀ i, i ≠ k.g → w2.heap[i]? = (w.setCell ⟨g, o, none⟩ z).heap[i]? := fun i hi => by rw [h2]; exact Below.heap_setCell _ _ _ _ (fun e => hi (by rw [e]))
  have hset1 : ∀ i, i ≠ g → (w.setCell ⟨g, o, none⟩ z).heap[i]? = w.heap[i]? := fun i hi => Below.heap_setCell _ _ _ _ (fun e => hi (by rw [e]))
  have hkeep : ∀ i, i ≠ k.g → v.ownBlock ≠ some i → w2.heap[i]? = w.heap[i]? := fun i h1 h3 => (hset i h1).trans (hset1 i (fun e => h3 (by rw [hv, e])))
  have hkg : w2.heap[k.g]? = some (.cells #[.pointer (some ⟨k.d, 0, none⟩), .string (bstr k.p), .int .i64 k.most, k.fn, v'] 84 (0, 0)) := by
    rw [h2]
    exact block_set ((hset1 _ (fun e => hgk e.symm)).trans h.wm.blk) 4 v'
  have hw : Wm w2 k F' v' := h.wm.sub hs hkg hkeep (hrow.kept fun i hi => hset i (fun e => hgk (by rw [hv'] at hi; cases hi; exact e)))
  have hK : Kp w w2 (Fw k F v) := by
    refine ⟨by rw [h2]; rfl, by rw [h2]; rfl, by rw [h2]; rfl, ?_, fun i hi hn => ?_⟩
    · rw [h2]
      simp only [World.setCell, Array.size_modify]
      exact Nat.le_refl _
    · exact hkeep i (fun e => hn (Or.inl e)) (fun e => hn (Or.inr (Or.inr (Or.inr (Or.inl e)))))
  have hmem : ∀ i, Fw k F' v' i → Fw k F v i := by
    intro i hi
    rcases hi with e | e | e | e | ⟨a, ha, e⟩
    · exact Or.inl e
    · exact Or.inr (Or.inl e)
    · exact Or.inr (Or.inr (Or.inl e))
    · exact Or.inr (Or.inr (Or.inr (Or.inl (by rw [hv, ← hv']; exact e))))
    · exact Or.inr (Or.inr (Or.inr (Or.inr ⟨a, hs.subset ha, e⟩)))
  exact ⟨⟨h.dk.log h.wm hK, hw, h.geD, fun i hi => h.geW i (hmem i hi), h.vw.below (hK.below h.vw.le h.geW)⟩, hK, hmem⟩

/-- What Drop makes of a log's files. -/
def drP (p : List UInt8) (c : Nat) : WF → List F3 → WF × List F3
  | a :: b :: r, P => if c < a.1 + a.2.length then (a :: b :: r, P) else drP p c (b :: r) (wtoP (nm p a.1) P)
  | F, P => (F, P)

set_option maxRecDepth 100000 in
theorem slice_one (g off n cap : Nat) (hn : 1 ≤ n) (hc : n + 1 ≤ cap) (W : World) : (Instr.slice 82 (.slice (some ⟨g, off, none⟩) (n + 1) cap) (some (.int .i64 1)) none none).run Tryz.prog W = .ok (.slice (some ⟨g, off + 1, none⟩) n (cap - 1)) W := by
  obtain ⟨i0, hi, hz0, hz1, hz2⟩ := info_parts Tryz.infoPF
  have hel : Tryz.prog.elem 82 = 100 := by kernel_rfl
  have hs : (sizeOf (Tryz.prog.elem 82)).run Tryz.prog W = .ok 1 W := by rw [hel]; simp [Go.sizeOf, typeInfo, hi, hz1]
  rw [run_slice_l (P := Tryz.prog) W 82 (some ⟨g, off, none⟩) (n + 1) cap Tryz.underlying82 .i64 1 (by omega) (by omega), hs]
  show Result.ok (Value.slice (if cap = 1 then some ⟨g, off, none⟩ else some ⟨g, off + 1, none⟩) (n + 1 - 1) (cap - 1)) W = _
  rw [if_neg (by omega), Nat.add_sub_cancel]

end Go.Proofs.YtpldfakfgngaaaaGreatDoor
