/-
  The last records of a file given up: the contract of shorten.
-/
import Derived.Test.YtpldfakfgngaaaaGreatDoorWFrames
import Derived.Lib.SliceRun
namespace Go.Proofs.YtpldfakfgngaaaaGreatDoor
open Go.RowKit
attribute [local go_sem] size_bstr toList_bstr append_bstr

theorem setCells_blk {b : Nat} {e : TypeId} : ∀ (xs : List Value) (o : Nat) {w : World} {cur : Array Value}, w.heap[b]? = some (.cells cur e (0, 0)) → ∃ cur', (w.setCells b o xs).heap[b]? = some (.cells cur' e (0, 0)) ∧ cur'.size = cur.size ∧ ∀ j, j < o → cur'[j]? = cur[j]?
  | [], _, _, cur, h => ⟨cur, h, rfl, fun _ _ => rfl⟩
  | x :: r, o, w, cur, h => by
    obtain ⟨cur', h1, h2, h3⟩ := setCells_blk r (o + 1) (block_set h o x)
    refine ⟨cur', h1, by rw [h2, Array.size_setIfInBounds], fun j hj => ?_⟩
    rw [h3 j (by omega), Array.getElem?_setIfInBounds_ne (by omega)]
theorem setCells_rest {b : Nat} : ∀ (xs : List Value) (o : Nat) (w : World), (w.setCells b o xs).os = w.os ∧ (w.setCells b o xs).tape = w.tape ∧ (w.setCells b o xs).output = w.output ∧ (w.setCells b o xs).heap.size = w.heap.size ∧ ∀ i, i ≠ b → (w.setCells b o xs).heap[i]? = w.heap[i]?
  | [], _, _ => ⟨rfl, rfl, rfl, rfl, fun _ _ => rfl⟩
  | x :: r, o, w => by
    obtain ⟨h1, h2, h3, h4, h5⟩ := setCells_rest r (o + 1) (w.setCell ⟨b, o, none⟩ x)
    refine ⟨h1, h2, h3, by rw [World.setCells, h4]; simp only [World.setCell, Array.size_modify], fun i hi => ?_⟩
    rw [World.setCells, h5 i hi]
    exact Below.heap_setCell _ _ _ _ (fun e => hi e)
/-- A file with its first records only. -/
def Wf.cut (f : Wf) (n : Nat) (v : Value) : Wf := { f with recs := f.recs.take n, v := v }
theorem short_end {w w7 : World} {p : List UInt8} {f : Wf} {g off cap n : Nat} {xs : List Value} {T : Int} (h : WfAt w p f) (hv : f.v = .slice (some ⟨g, off, none⟩) f.recs.length cap) (hn : n ≤ f.recs.length) (hT : T = (totS (f.recs.take n) : Int))
    (h7 : w7 = ((w.setCells g (off + n) xs).setCell ⟨f.g, 3, none⟩ (.slice (some ⟨g, off, none⟩) n n)).setCell ⟨f.g, 2, none⟩ (.int .i64 T)) : WfAt w7 p (f.cut n (.slice (some ⟨g, off, none⟩) n n)) ∧ Kp w w7 (Fb f) := by
  obtain ⟨cur0, hc0⟩ := h.row.blk (i := g) (by rw [hv]; rfl)
  have hne : g ≠ f.g := fun e => by
    rw [e, h.blk] at hc0
    cases hc0
  obtain ⟨r1, r2, r3, r4, r5⟩ := setCells_rest (b := g) xs (off + n) w
  obtain ⟨cur', k1, k2, k3⟩ := setCells_blk xs (off + n) hc0
  have hs : ∀ i, i ≠ f.g → w7.heap[i]? = (w.setCells g (off + n) xs).heap[i]? := fun i hi => by
    rw [h7]
    exact (Below.heap_setCell _ _ _ _ (fun e => hi e)).trans (Below.heap_setCell _ _ _ _ (fun e => hi e))
  have hrow := h.row
  rw [hv] at hrow
  have hlen : (strV (f.recs.take n)).length = n := by rw [strV_len, List.length_take]; omega
  refine ⟨⟨?_, ?_⟩, ⟨?_, ?_, ?_, ?_, fun i hi hnn => ?_⟩⟩
  · rw [h7]
    refine Eq.trans ?_ (congrArg (fun z => some (Obj.cells #[.string (bstr (nm p f.num)), .int .u64 (f.num : Int), .int .i64 z, .slice (some ⟨g, off, none⟩) n n] 99 (0, 0))) hT)
    exact block_set (block_set ((r5 _ (fun e => hne e.symm)).trans h.blk) 3 _) 2 _
  · show Rw w7 _ (.slice (some ⟨g, off, none⟩) n n) (strV (f.recs.take n))
    rcases hrow with ⟨e, _⟩ | ⟨g', off', cap', cur, e, hg, a1, a2, a3⟩
    · cases e
    · rw [strV_len] at e
      cases e
      rw [hc0] at hg
      cases hg
      rw [strV_len] at a1
      refine Or.inr ⟨g, off, n, cur', by rw [hlen], (hs g hne).trans k1, by rw [hlen]; exact Nat.le_refl _, by omega, fun i hi => ?_⟩
      rw [hlen] at hi
      rw [k3 (off + i) (by omega), a3 i (by rw [strV_len]; omega)]
      simp [strV]
  · rw [h7]; exact r1
  · rw [h7]; exact r2
  · rw [h7]; exact r3
  · rw [h7]
    simp only [World.setCell, Array.size_modify]
    omega
  · rw [hs i (fun e => hnn (Or.inl e)), r5 i (fun e => hnn (Or.inr (by rw [hv, e]; rfl)))]

end Go.Proofs.YtpldfakfgngaaaaGreatDoor
