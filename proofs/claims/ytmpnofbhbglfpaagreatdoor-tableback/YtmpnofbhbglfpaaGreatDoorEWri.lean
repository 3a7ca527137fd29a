/-
  What is written into a strings.Builder leaves rows of another kind as they are; rows of numbers beside a builder.
-/
import Derived.Test.YtmpnofbhbglfpaaGreatDoorCBld
namespace Go.Proofs.YtmpnofbhbglfpaaGreatDoor
open Go.RowKit

/-- Blocks of another kind are as they were. -/
def Far (b : Nat) (w w' : World) : Prop := ∀ k cur t fz, w.heap[k]? = some (.cells cur t fz) → t ≠ 5 → k ≠ b → w'.heap[k]? = w.heap[k]?
theorem far_set {b : Nat} {w W : World} {o : Nat} {v : Value} (h : Far b w W) : Far b w (W.setCell ⟨b, o, none⟩ v) := by
  intro k cur t fz hk ht hb
  rw [Below.heap_setCell W ⟨b, o, none⟩ v k hb]
  exact h k cur t fz hk ht hb
theorem far_refl (b : Nat) (w : World) : Far b w w := fun _ _ _ _ _ _ _ => rfl

theorem copyCheck_far (B b : Nat) (l : List UInt8) (w : World) (h : IsB B b l w) :
    Calls Tryz.prog 101 #[.pointer (some ⟨b, 0, none⟩)] w fun e w' => e = .returned (.tuple #[]) ∧ (Lib.BuilderAt 99 5 B b (.pointer (some ⟨b, 0, none⟩)) (Lib.byteCells l) w' ∧ Below B w w' ∧ Far b w w') := by
  rcases h with h | h
  · refine (copyCheck_fresh b w h.cell0 h.shape h.frozen0).mono ?_
    rintro e w' ⟨rfl, rfl⟩
    exact ⟨rfl, h.used _, (Below.refl B w).setCell (p := ⟨b, 0, none⟩) h.1 _, far_set (far_refl b w)⟩
  · refine (copyCheck_used b w h.cell0).mono ?_
    rintro e w' ⟨rfl, rfl⟩
    exact ⟨rfl, h, Below.refl B _, far_refl b _⟩

set_option maxHeartbeats 2000000 in
set_option maxRecDepth 100000 in
theorem WriteString_far (B b : Nat) (l s : List UInt8) (w : World) (h : IsB B b l w) (hlen : l.length + s.length ≤ 140737488355328) (hBw : B ≤ w.heap.size) :
    Calls Tryz.prog 54 #[.pointer (some ⟨b, 0, none⟩), .string (bstr s)] w fun e w' => e = .returned (.tuple #[.int .i64 s.length, .nilIface]) ∧ IsB B b (l ++ s) w' ∧ Below B w w' ∧ Far b w w' := by
  obtain ⟨i0, hi, hz0, hz1, hz2⟩ := info_parts Tryz.infoByte
  have hsz := size_bstr s
  go_enter Tryz.func54, Tryz.ntmps54
  go_wp2_with fail
  refine (copyCheck_far B b l _ h).mono ?_
  rintro e w1 ⟨rfl, h1, hb1, hf1⟩
  obtain ⟨hB, v, hbk, hown, hne⟩ := h1
  rw [Lib.byteCells_length] at hown
  have c0 : w1.cell? ⟨b, 0, none⟩ = some (.pointer (some ⟨b, 0, none⟩)) := by rw [Lib.cell_of_heap hbk]; rfl
  have c1 : w1.cell? ⟨b, 1, none⟩ = some v := by rw [Lib.cell_of_heap hbk]; rfl
  go_wp2_with (at_builtin; refine Lib.wpList_append_own_string _ rfl _ _ 88 9 rfl B 5 i0 Tryz.underlying88 Tryz.underlying9 hi hz0 hz1 hz2 _ _ _ rfl hown (bstr s) rfl ?c3 ?c4 ?c5 ?_)
  case c3 => unfold maxLen; omega
  case c4 => omega
  case c5 => have := hb1.size; omega
  intro v' w2 hown' hgrow _
  have hlt : b < w1.heap.size := lt_of_block hbk
  have hb2 : w2.heap[b]? = some (.cells #[.pointer (some ⟨b, 0, none⟩), v] 99 (0, 0)) := by
    rw [hgrow.block b hlt (fun e => hne e.symm)]
    exact hbk
  have d0 : w2.cell? ⟨b, 0, none⟩ = some (.pointer (some ⟨b, 0, none⟩)) := by rw [Lib.cell_of_heap hb2]; rfl
  have d1 : w2.cell? ⟨b, 1, none⟩ = some v := by rw [Lib.cell_of_heap hb2]; rfl
  have f1 : w2.frozen? ⟨b, 1, none⟩ = false := Lib.frozen_of_heap hb2 1
  obtain ⟨ao, n', cap, rfl⟩ : ∃ ao n' cap, v' = .slice ao n' cap := by
    rcases hown'.2 with ⟨hv, _⟩ | ⟨g, cap, cur, hv, _⟩
    · exact ⟨_, _, _, hv⟩
    · exact ⟨_, _, _, hv⟩
  go_wp2
  go_ret2
  have hst : Lib.strCells (bstr s) = Lib.byteCells s := by rw [strCells_eq, data_bstr]
  refine ⟨by rw [← hsz]; rfl, .inr ?_, ?_, far_set ?_⟩
  · refine Lib.BuilderAt.put (T := 99) (e := 5) hB hb2 (bs' := Lib.byteCells (l ++ s)) ?_ (by decide)
    rw [byteCells_append, List.length_append, Lib.byteCells_length, Lib.byteCells_length, ← hst, ← hsz]
    exact hown'
  · exact (hb1.grown hgrow (by have := hb1.size; omega) (fun k hk => (hown.lt k hk).1)).setCell (p := ⟨b, 1, none⟩) hB _
  · intro k cur t fz hk ht hkb
    have h1k := (hf1 k cur t fz hk ht hkb).trans hk
    refine (hgrow.block k (lt_of_block h1k) (fun hs => ?_)).trans (hf1 k cur t fz hk ht hkb)
    rcases hown.2 with ⟨hv2, _⟩ | ⟨g2, cap2, cur2, hv2, _, hgc2, _⟩
    · rw [hv2] at hs
      exact absurd hs (by simp [Value.ownBlock])
    · rw [hv2] at hs
      have : k = g2 := by simpa [Value.ownBlock] using hs
      rw [← this, h1k] at hgc2
      have := Option.some.inj hgc2
      injection this with _ h5 _
      exact ht h5

theorem IsB.blk {B b : Nat} {l : List UInt8} {w : World} (h : IsB B b l w) : ∃ cur, w.heap[b]? = some (.cells cur 99 (0, 0)) := by
  rcases h with ⟨_, v, h2, _⟩ | ⟨_, v, h2, _⟩ <;> exact ⟨_, h2⟩
/-- A row of numbers is kept when a builder is written to; and a builder when such a row is. -/
theorem own_far {B e B2 b size n : Nat} {v : Value} {xs : List Value} {l : List UInt8} {w w' : World} (h : w.ownsRow B e size v n xs) (he : e ≠ 5) (he2 : e ≠ 99) (hI : IsB B2 b l w) (hf : Far b w w') : w'.ownsRow B e size v n xs := by
  rcases h.2 with h0 | ⟨g, cap, cur, hv, hbg, hgc, r⟩
  · exact ⟨h.1, .inl h0⟩
  · refine ⟨h.1, .inr ⟨g, cap, cur, hv, hbg, (hf g _ _ _ hgc he ?_).trans hgc, r⟩⟩
    rintro rfl
    obtain ⟨cur2, h2⟩ := hI.blk
    rw [hgc] at h2
    have := Option.some.inj h2
    injection this with _ h5 _
    exact he2 h5
theorem IsB.other {B e B2 b size n : Nat} {v : Value} {xs : List Value} {l : List UInt8} {w w' : World} (hI : IsB B2 b l w) (h : w.ownsRow B e size v n xs) (he : e ≠ 5) (he2 : e ≠ 99) (hg : w.grownBy w' v.ownBlock) : IsB B2 b l w' := by
  have key : ∀ (k : Nat) (cur : Array Value) (t : TypeId) (fz : Nat × Nat), w.heap[k]? = some (Obj.cells cur t fz) → t ≠ e → w'.heap[k]? = w.heap[k]? := by
    intro k cur t fz hk ht
    refine hg.block k (lt_of_block hk) (fun hs => ?_)
    rcases h.2 with ⟨hv2, _⟩ | ⟨g2, cap2, cur2, hv2, _, hgc2, _⟩
    · rw [hv2] at hs
      exact absurd hs (by simp [Value.ownBlock])
    · rw [hv2] at hs
      have : k = g2 := by simpa [Value.ownBlock] using hs
      rw [← this, hk] at hgc2
      have := Option.some.inj hgc2
      injection this with _ h5 _
      exact ht h5
  have go : ∀ p, Lib.BuilderAt 99 5 B2 b p (Lib.byteCells l) w → Lib.BuilderAt 99 5 B2 b p (Lib.byteCells l) w' := by
    rintro p ⟨h1, v, h2, h3, h4⟩
    refine ⟨h1, v, (key b _ _ _ h2 (fun e => he2 e.symm)).trans h2, ?_, h4⟩
    rcases h3.2 with h0 | ⟨g, cap, cur, hv, hbg, hg, r⟩
    · exact ⟨h3.1, .inl h0⟩
    · exact ⟨h3.1, .inr ⟨g, cap, cur, hv, hbg, (key g _ _ _ hg (fun e => he e.symm)).trans hg, r⟩⟩
  rcases hI with h | h
  · exact .inl (go _ h)
  · exact .inr (go _ h)

end Go.Proofs.YtmpnofbhbglfpaaGreatDoor
