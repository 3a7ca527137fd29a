/-
  SkipPlays: the list and the document's beside one another, step by step.
-/
import Derived.Test.YtijfmgpipnhkkaaSPl2
namespace Go.Proofs.Ytijfmgpipnhkkaa
open Go.RowKit Go.BigFrame Go.Sort

/-- Between two steps: the list and the document's, beside one another. -/
structure PS (w : World) (l hd mB : Nat) (T : List Tw) (v : Value) (qc : Option Addr) (gc cc : Nat) (qh : Option Addr) (gh ch : Nat) (W : World) : Prop where
  ls : Ls W l hd T v []
  da : DA W (chT T) qc gc cc qh gh ch
  mb : W.heap[mB]? = some (.cells #[.slice qc T.length cc, .slice qh T.length ch] 28 (0, 0))
  rb : W.heap[w.heap.size]? = some (.cells #[.bool false] 4 (0, 0))
  lo : ∀ i, Ow l hd T v i → w.heap.size < i
  kp : Below w.heap.size w W
  gn : 0 < T.length → ¬ Ow l hd T v gc ∧ ¬ Ow l hd T v gh
  ml : w.heap.size < mB

/-- What the document's Put has made, in a block of its own. -/
structure R8 (wr : World) (n : Nat) (L' : List (Cl × Nat)) (gc gh : Nat) (nB : Nat) (qc' : Option Addr) (gc' cc' : Nat) (qh' : Option Addr) (gh' ch' : Nat) (wx : World) : Prop where
  nb : wx.heap[nB]? = some (.cells #[.slice qc' L'.length cc', .slice qh' L'.length ch'] 28 (0, 0))
  da : DA wx L' qc' gc' cc' qh' gh' ch'
  be : Below wr.heap.size wr wx
  nn : wr.heap.size ≤ nB
  gg : 0 < L'.length → (gc' = gc ∧ gh' = gh ∧ 0 < n) ∨ (wr.heap.size ≤ gc' ∧ wr.heap.size ≤ gh')
theorem kcS {X wf wr : World} {a : Addr} {v : Value} (hX : RowKit.Below wr.heap.size wr X) (hbf : RowKit.Below X.heap.size X wf) (h : wr.cell? a = some v) : wf.cell? a = some v := by
  have hl := World.block_lt_of_cell? wr a h
  rw [World.cell?_of_block (hbf.block a.block (Nat.lt_of_lt_of_le hl hX.size)), World.cell?_of_block (hX.block a.block hl)]
  exact h
theorem atS1 {X wf wr : World} {z : Obj} (hbf : RowKit.Below X.heap.size X wf) (hX : X.heap = wr.heap.push z) : wf.heap[wr.heap.size]? = some z := by
  refine (hbf.block _ (by rw [hX]; simp)).trans ?_
  rw [hX]
  simp
/-- A new block of two slices. -/
def Z2 (W : World) (n : Nat) : Prop := W.heap[n]? = some (.cells #[.slice none 0 0, .slice none 0 0] 28 (0, 0))
theorem Z2.facts {W : World} {n : Nat} (h : Z2 W n) : W.cell? ⟨n, 0, none⟩ = some (.slice none 0 0) ∧ W.cell? ⟨n, 1, none⟩ = some (.slice none 0 0) ∧ W.frozen? ⟨n, 0, none⟩ = false ∧ W.frozen? ⟨n, 1, none⟩ = false := by
  unfold Z2 at h
  exact ⟨(cells_block h).1 0, (cells_block h).1 1, (cells_block h).2 0, (cells_block h).2 1⟩
theorem Z2.put {W : World} {n : Nat} (h : Z2 W n) (x y : Value) : ((W.setCell ⟨n, 0, none⟩ x).setCell ⟨n, 1, none⟩ y).heap[n]? = some (.cells #[x, y] 28 (0, 0)) :=
  heap_set_same (heap_set_same h x) y
theorem R8.late {wr wf : World} {n : Nat} {L' : List (Cl × Nat)} {gc gh : Nat} {qc' : Option Addr} {gc' cc' : Nat} {qh' : Option Addr} {gh' ch' : Nat} (hD : DA wf L' qc' gc' cc' qh' gh' ch') (hb : Below wr.heap.size wr wf) (hg : 0 < L'.length → (gc' = gc ∧ gh' = gh ∧ 0 < n) ∨ (wr.heap.size ≤ gc' ∧ wr.heap.size ≤ gh')) : R8 wr n L' gc gh wf.heap.size qc' gc' cc' qh' gh' ch' (wf.alloc (.cells #[.slice qc' L'.length cc', .slice qh' L'.length ch'] 28)) := by
  have h2 : Below wf.heap.size wf (wf.alloc (.cells #[.slice qc' L'.length cc', .slice qh' L'.length ch'] 28)) := (Below.refl _ _).alloc (Nat.le_refl _) _
  exact ⟨heap_alloc_new _ _, hD.below h2, below2 hb h2, hb.size, hg⟩
theorem R8.early {wr wf : World} {n : Nat} {L' : List (Cl × Nat)} {gc gh : Nat} {qc' : Option Addr} {gc' cc' : Nat} {qh' : Option Addr} {gh' ch' : Nat} (hD : DA wf L' qc' gc' cc' qh' gh' ch') (hb : Below wr.heap.size wr wf) (hz : Z2 wf wr.heap.size) (hg : 0 < L'.length → (gc' = gc ∧ gh' = gh ∧ 0 < n) ∨ (wr.heap.size < gc' ∧ wr.heap.size < gh')) (hgn : 0 < n → gc < wr.heap.size ∧ gh < wr.heap.size) : R8 wr n L' gc gh wr.heap.size qc' gc' cc' qh' gh' ch' ((wf.setCell ⟨wr.heap.size, 0, none⟩ (.slice qc' L'.length cc')).setCell ⟨wr.heap.size, 1, none⟩ (.slice qh' L'.length ch')) := by
  refine ⟨hz.put _ _, hD.kept (by simp) fun h0 => ?_, (hb.setCell (Nat.le_refl _) _).setCell (Nat.le_refl _) _, Nat.le_refl _, fun h0 => ?_⟩
  · have : gc' ≠ wr.heap.size ∧ gh' ≠ wr.heap.size := by
      rcases hg h0 with ⟨rfl, rfl, h1⟩ | ⟨h1, h2⟩
      · have := hgn h1; omega
      · omega
    exact ⟨(heap_set_other _ this.1).trans (heap_set_other _ this.1), (heap_set_other _ this.2).trans (heap_set_other _ this.2)⟩
  · rcases hg h0 with ⟨h1, h2, h3⟩ | ⟨h1, h2⟩
    · exact .inl ⟨h1, h2, h3⟩
    · exact .inr ⟨by omega, by omega⟩

/-- What the program's Put has made. -/
structure R9 (wc : World) (l hd : Nat) (T : List Tw) (v : Value) (d : Dst) (T' : List Tw) (v' : Value) (w' : World) : Prop where
  ch : chT T' = stL d (chT T)
  le : T'.length ≤ T.length + 1
  ls : Ls w' l hd T' v' []
  kp : Kp wc w' (Ow l hd T v)
  fo : ∀ i, Ow l hd T' v' i → Ow l hd T v i ∨ wc.heap.size ≤ i
theorem kcK {wf wr : World} {S : Nat → Prop} {a : Addr} {v : Value} (hK : Kp wr wf S) (h : wr.cell? a = some v) (hn : ¬ S a.block) : wf.cell? a = some v := by
  rw [World.cell?_of_block (hK.block a.block (World.block_lt_of_cell? wr a h) hn)]
  exact h

/-- What has not been touched by the program's Put. -/
theorem R9.facts {w wr wc wf : World} {l hd mB : Nat} {T : List Tw} {v : Value} {qc : Option Addr} {gc cc : Nat} {qh : Option Addr} {gh ch : Nat} {d : Dst} {nB : Nat} {qc' : Option Addr} {gc' cc' : Nat} {qh' : Option Addr} {gh' ch' : Nat} {T' : List Tw} {v' : Value}
    (hP : PS w l hd mB T v qc gc cc qh gh ch wr) (h8 : R8 wr T.length (stL d (chT T)) gc gh nB qc' gc' cc' qh' gh' ch' wc) (h9 : R9 wc l hd T v d T' v' wf) :
    wf.heap[nB]? = some (.cells #[.slice qc' (stL d (chT T)).length cc', .slice qh' (stL d (chT T)).length ch'] 28 (0, 0)) ∧ wf.heap[mB]? = some (.cells #[.slice qc T.length cc, .slice qh T.length ch] 28 (0, 0)) := by
  have hs := h8.be.size
  refine ⟨(h9.kp.block _ (blk_lt h8.nb) (fun h => ?_)).trans h8.nb, (h9.kp.block _ (Nat.lt_of_lt_of_le (blk_lt hP.mb) hs) (hP.ls.other hP.mb (by decide))).trans ((h8.be.block _ (blk_lt hP.mb)).trans hP.mb)⟩
  have := hP.ls.lt h
  have := h8.nn
  omega
theorem PS.stepped {w wr wc wf : World} {l hd mB : Nat} {T : List Tw} {v : Value} {qc : Option Addr} {gc cc : Nat} {qh : Option Addr} {gh ch : Nat} {d : Dst} {nB : Nat} {qc' : Option Addr} {gc' cc' : Nat} {qh' : Option Addr} {gh' ch' : Nat} {T' : List Tw} {v' : Value}
    (hP : PS w l hd mB T v qc gc cc qh gh ch wr) (h8 : R8 wr T.length (stL d (chT T)) gc gh nB qc' gc' cc' qh' gh' ch' wc) (h9 : R9 wc l hd T v d T' v' wf) :
    PS w l hd mB T' v' qc' gc' cc' qh' gh' ch' ((wf.setCell ⟨mB, 0, none⟩ (.slice qc' (stL d (chT T)).length cc')).setCell ⟨mB, 1, none⟩ (.slice qh' (stL d (chT T)).length ch')) := by
  obtain ⟨fn, fm⟩ := R9.facts hP h8 h9
  have hs := h8.be.size
  have hml := blk_lt hP.mb
  have hw := hP.ml
  have hsz : ((wf.setCell ⟨mB, 0, none⟩ (.slice qc' (stL d (chT T)).length cc')).setCell ⟨mB, 1, none⟩ (.slice qh' (stL d (chT T)).length ch')).heap.size = wf.heap.size := by simp
  have hoth : ∀ i, i ≠ mB → ((wf.setCell ⟨mB, 0, none⟩ (.slice qc' (stL d (chT T)).length cc')).setCell ⟨mB, 1, none⟩ (.slice qh' (stL d (chT T)).length ch')).heap[i]? = wf.heap[i]? := fun i hi => (heap_set_other _ hi).trans (heap_set_other _ hi)
  have hlen : (stL d (chT T)).length = T'.length := by rw [← h9.ch, chT_length]
  have hgg : 0 < (stL d (chT T)).length → (¬ Ow l hd T v gc' ∧ ¬ Ow l hd T v gh') ∧ gc' < wc.heap.size ∧ gh' < wc.heap.size ∧ gc' ≠ mB ∧ gh' ≠ mB := fun h0 => by
    obtain ⟨_, hr, hl1⟩ := h8.da.c h0
    obtain ⟨_, hr2, hl2⟩ := h8.da.h h0
    have fmc : wc.heap[mB]? = some (.cells #[.slice qc T.length cc, .slice qh T.length ch] 28 (0, 0)) := (h8.be.block _ hml).trans hP.mb
    have k0 : wc.cell? ⟨mB, 0, none⟩ = some (.slice qc T.length cc) := (cells_block fmc).1 0
    refine ⟨?_, hl1, hl2, fun e => ?_, fun e => ?_⟩
    · rcases h8.gg h0 with ⟨rfl, rfl, h1⟩ | ⟨h1, h2⟩
      · exact hP.gn h1
      · exact ⟨fun h => by have := hP.ls.lt h; omega, fun h => by have := hP.ls.lt h; omega⟩
    · have := (hr 0 (by rw [List.length_map]; exact h0)).c0
      rw [Nat.zero_add, Nat.zero_mul, e, k0] at this
      cases this
    · have := hr2 0 (by rw [List.length_map]; exact h0)
      rw [e, k0] at this
      cases this
  have hlo : ∀ i, Ow l hd T' v' i → w.heap.size < i := fun i hi => by
    rcases h9.fo i hi with h | h
    · exact hP.lo i h
    · omega
  refine ⟨h9.ls.kept fun i hi => hoth i (fun e => h9.ls.other fm (by decide) (e ▸ hi)), ?_, ?_, ?_, hlo, ?_, fun h0 => ?_, hw⟩
  · rw [h9.ch]
    refine h8.da.kept (by rw [hsz]; exact h9.kp.size) fun h0 => ?_
    obtain ⟨⟨a1, a2⟩, a3, a4, a5, a6⟩ := hgg h0
    exact ⟨(hoth _ a5).trans (h9.kp.block _ a3 a1), (hoth _ a6).trans (h9.kp.block _ a4 a2)⟩
  · rw [← hlen]
    exact heap_set_same (heap_set_same fm _) _
  · refine (hoth _ (by omega)).trans ?_
    have h1 := blk_lt hP.rb
    exact (h9.kp.block _ (by omega) (fun h => by have := hP.lo _ h; omega)).trans ((h8.be.block _ h1).trans hP.rb)
  · have h1 : Below w.heap.size w wc := below2 hP.kp h8.be
    have h2 : Below w.heap.size wc wf := h9.kp.below h1.size (fun i h => by have := hP.lo i h; omega)
    have h3 : Below w.heap.size w wf := ⟨h2.os.trans h1.os, h2.tape.trans h1.tape, h2.output.trans h1.output, Nat.le_trans h1.size h2.size, fun k hk => (h2.block k hk).trans (h1.block k hk)⟩
    exact (h3.setCell (by show w.heap.size ≤ mB; omega) _).setCell (by show w.heap.size ≤ mB; omega) _
  · obtain ⟨⟨a1, a2⟩, a3, a4, _, _⟩ := hgg (by omega)
    exact ⟨fun h => by rcases h9.fo _ h with k | k; exact a1 k; omega, fun h => by rcases h9.fo _ h with k | k; exact a2 k; omega⟩
theorem PS.below {w W W' : World} {l hd mB : Nat} {T : List Tw} {v : Value} {qc : Option Addr} {gc cc : Nat} {qh : Option Addr} {gh ch : Nat} (h : PS w l hd mB T v qc gc cc qh gh ch W) (hb : Below W.heap.size W W') : PS w l hd mB T v qc gc cc qh gh ch W' :=
  ⟨h.ls.below hb, h.da.below hb, (hb.block _ (blk_lt h.mb)).trans h.mb, (hb.block _ (blk_lt h.rb)).trans h.rb, h.lo, below2 h.kp hb, h.gn, h.ml⟩
/-- The list has been gone through: it is as it was. -/
theorem PS.told {w W W' : World} {l hd mB : Nat} {T : List Tw} {v v' : Value} {qc : Option Addr} {gc cc : Nat} {qh : Option Addr} {gh ch : Nat} (h : PS w l hd mB T v qc gc cc qh gh ch W) (hL : Ls W' l hd T v' []) (hK : Kp W W' (Ow l hd T v)) (hfo : ∀ i, Ow l hd T v' i → Ow l hd T v i ∨ W.heap.size ≤ i) : PS w l hd mB T v' qc gc cc qh gh ch W' := by
  have hw := h.ml
  have hml := blk_lt h.mb
  have h2 : Below w.heap.size W W' := hK.below h.kp.size (fun i hi => by have := h.lo i hi; omega)
  have h1 := h.kp
  refine ⟨hL, h.da.kept hK.size fun h0 => ?_, (hK.block _ hml (h.ls.other h.mb (by decide))).trans h.mb, (hK.block _ (blk_lt h.rb) (fun hi => by have := h.lo _ hi; omega)).trans h.rb, fun i hi => ?_, ⟨h2.os.trans h1.os, h2.tape.trans h1.tape, h2.output.trans h1.output, Nat.le_trans h1.size h2.size, fun k hk => (h2.block k hk).trans (h1.block k hk)⟩, fun h0 => ?_, hw⟩
  · obtain ⟨a1, a2⟩ := h.gn (by rwa [chT_length] at h0)
    exact ⟨hK.block _ (h.da.c h0).2.2 a1, hK.block _ (h.da.h h0).2.2 a2⟩
  · rcases hfo i hi with k | k
    · exact h.lo i k
    · omega
  · obtain ⟨a1, a2⟩ := h.gn h0
    have h0' : 0 < (chT T).length := by rw [chT_length]; exact h0
    have b1 := (h.da.c h0').2.2
    have b2 := (h.da.h h0').2.2
    exact ⟨fun k => by rcases hfo _ k with k | k; exact a1 k; omega, fun k => by rcases hfo _ k with k | k; exact a2 k; omega⟩
/-- What tells leaves. -/
structure R15 (w7 : World) (l hd : Nat) (T : List Tw) (v v2 : Value) (W : World) : Prop where
  ls : Ls W l hd T v2 []
  kp : Kp w7 W (Ow l hd T v)
  fo : ∀ i, Ow l hd T v2 i → Ow l hd T v i ∨ w7.heap.size ≤ i
theorem tells_ps {w w7 : World} {l hd mB : Nat} {T A B : List Tw} {v : Value} {qc : Option Addr} {gc cc : Nat} {qh : Option Addr} {gh ch : Nat} (row col : List UInt8) (lv : Int) (hP : PS w l hd mB T v qc gc cc qh gh ch w7) (hT : T = A ++ B) (hA : ∀ t ∈ A, ccl t.c (plC row col) < 0) (hB : ∀ t ∈ B, 0 ≤ ccl t.c (plC row col)) (hn : T.length ≤ 1000000) (h1 : row.length ≤ 140737488351232) (h2 : col.length ≤ 140737488351232)
    (W : World) (qw : Option Addr) (ow cw : Nat) (hb : Below w7.heap.size w7 W) (hw : 0 < B.length → qw = some ⟨gc, ow, none⟩ ∧ CRow W gc ow (B.map fun t => t.c)) :
    Calls Try.prog 10 #[.pointer (some ⟨l, 0, none⟩), .string (bstr row), .string (bstr col), .slice qw B.length cw, .int .i64 lv] W fun e w' => e = .returned (.bool true) ∧ ∃ v2, R15 w7 l hd T v v2 w' := by
  subst hT
  have hl := hP.ls.below hb
  refine tells_rp l hd A B v row col qw gc ow cw lv W hl hA hB (by rw [List.length_append] at hn; omega) h1 h2 (fun h0 => ?_) _ (fun v2 W' h3 h4 h5 => ⟨rfl, v2, h3, (Kp.of_below _ hb).trans h4 (fun _ h => .inl h), fun i hi => (h5 i hi).imp id fun h => Nat.le_trans hb.size h⟩)
  have h00 : 0 < (A ++ B).length := by rw [List.length_append]; omega
  have h0' : 0 < (chT (A ++ B)).length := by rw [chT_length]; exact h00
  exact ⟨(hw h0).1, (hw h0).2, Nat.lt_of_lt_of_le (hP.da.c h0').2.2 hb.size, (hP.gn h00).1⟩
theorem from_ps {w w7 : World} {l hd mB : Nat} {T A B : List Tw} {v : Value} {qc : Option Addr} {gc cc : Nat} {qh : Option Addr} {gh ch : Nat} (row col : List UInt8) (hP : PS w l hd mB T v qc gc cc qh gh ch w7) (hT : T = A ++ B) (hA : ∀ t ∈ A, ccl t.c (plC row col) < 0) (hB : ∀ t ∈ B, 0 ≤ ccl t.c (plC row col)) (hn : T.length ≤ 1000000) (W : World) (hb : Below w7.heap.size w7 W) :
    Calls Try.prog 11 #[.agg #[.slice qc T.length cc, .slice qh T.length ch], .string (bstr row), .string (bstr col)] W fun e w' => ∃ qw ow cw, e = .returned (.slice qw B.length cw) ∧ (0 < B.length → qw = some ⟨gc, ow, none⟩ ∧ CRow w' gc ow (B.map fun t => t.c)) ∧ Below W.heap.size W w' := by
  have := RFrom_any (chT T) qc gc cc qh gh ch row col W (hP.da.below hb) (by rw [chT_length]; exact hn)
  rw [chT_cells] at this
  simp only [dV, chT_length] at this
  refine this.mono ?_
  intro e w' h
  obtain ⟨q, off, cap, h1, h2, h3⟩ := h.out
  have hR : fromR (T.map fun t => t.c) row col = B.map fun t => t.c := by
    subst hT
    exact fromR_tw hP.ls.may hA hB
  rw [hR, List.length_map] at h1 h2
  exact ⟨q, off, cap, h1, fun h0 => ⟨(h2 h0).1, (h2 h0).2.1⟩, h3⟩
theorem getV_eq (o : Option Cl) : getV o = .tuple #[clV (o.getD zC), .bool o.isSome] := by cases o <;> rfl

end Go.Proofs.Ytijfmgpipnhkkaa
