/-
  The contract of table's first.
  The contracts of table's Get, Len and Blocks.
  What Get finds is the first of the place, of all cells.
-/
import Derived.Test.YtmpnofbhbglfpaaGreatDoorGTOpn
namespace Go.Proofs.YtmpnofbhbglfpaaGreatDoor
open Go.RowKit
attribute [local go_sem] size_bstr toList_bstr

theorem plCells_get {ls : List (List UInt8 × List UInt8)} {j : Nat} (h : j < ls.length) : (plCells ls)[j * 2]? = some (.string (bstr ls[j].1)) ∧ (plCells ls)[j * 2 + 1]? = some (.string (bstr ls[j].2)) := by
  induction ls generalizing j with
  | nil => cases h
  | cons p ls ih =>
    have e : plCells (p :: ls) = .string (bstr p.1) :: .string (bstr p.2) :: plCells ls := by simp [plCells]
    rw [e]
    cases j with
    | zero => exact ⟨rfl, rfl⟩
    | succ j =>
      have := ih (j := j) (by simpa using h)
      rw [show (j + 1) * 2 = j * 2 + 1 + 1 by omega]
      simpa using this
/-- A row of places. -/
def PArg (w : World) (q : Option Addr) (g : Nat) (ls : List (List UInt8 × List UInt8)) : Prop := ∀ j (h : j < ls.length), q = some ⟨g, 0, none⟩ ∧ w.cell? ⟨g, j * 2, none⟩ = some (.string (bstr ls[j].1)) ∧ w.cell? ⟨g, j * 2 + 1, none⟩ = some (.string (bstr ls[j].2)) ∧ g < w.heap.size
theorem own_parg {w : World} {B n : Nat} {v : Value} {ls : List (List UInt8 × List UInt8)} (hn : ls.length = n) (h : w.ownsRow B 75 2 v n (plCells ls)) : ∃ q g cap, v = .slice q n cap ∧ PArg w q g ls := by
  rcases h.2 with ⟨hv, h0⟩ | ⟨g, cap, cur, hv, hbg, hg, hnc, hcm, hcs, htake⟩
  · exact ⟨none, 0, 0, by rw [hv, h0], fun j hj => by omega⟩
  · refine ⟨some ⟨g, 0, none⟩, g, cap, hv, fun j hj => ?_⟩
    have hk : ∀ k x, (plCells ls)[k]? = some x → w.cell? ⟨g, k, none⟩ = some x := fun k x hx => by
      rw [← htake, List.getElem?_take] at hx
      split at hx
      · rw [(Bl.cells_block hg).1, ← Array.getElem?_toList]
        exact hx
      · cases hx
    exact ⟨rfl, hk _ _ (plCells_get hj).1, hk _ _ (plCells_get hj).2, blk_lt hg⟩
theorem PArg.below {w w' : World} {q : Option Addr} {g : Nat} {ls : List (List UInt8 × List UInt8)} (h : PArg w q g ls) (hb : Below w.heap.size w w') : PArg w' q g ls := fun j hj => by
  obtain ⟨h1, h2, h3, h4⟩ := h j hj
  exact ⟨h1, by rw [(bcell hb).1 _ _ h4]; exact h2, by rw [(bcell hb).1 _ _ h4]; exact h3, Nat.lt_of_lt_of_le h4 hb.size⟩
/-- What first has captured. -/
structure FsX (w : World) (b tb : Nat) (p : List UInt8 × List UInt8) (vl : Value) : Prop where
  t : w.cell? ⟨b, 0, none⟩ = some (.pointer (some ⟨tb, 0, none⟩))
  p0 : w.cell? ⟨b + 1, 0, none⟩ = some (.string (bstr p.1))
  p1 : w.cell? ⟨b + 1, 1, none⟩ = some (.string (bstr p.2))
  l : w.cell? ⟨tb, 1, none⟩ = some vl
  z : b + 1 < w.heap.size ∧ tb < w.heap.size
theorem FsX.below {w w' : World} {b tb : Nat} {p : List UInt8 × List UInt8} {vl : Value} (h : FsX w b tb p vl) (hb : Below w.heap.size w w') : FsX w' b tb p vl :=
  ⟨by rw [(bcell hb).1 _ _ (by have := h.z; omega)]; exact h.t, by rw [(bcell hb).1 _ _ h.z.1]; exact h.p0, by rw [(bcell hb).1 _ _ h.z.1]; exact h.p1, by rw [(bcell hb).1 _ _ h.z.2]; exact h.l, ⟨Nat.lt_of_lt_of_le h.z.1 hb.size, Nat.lt_of_lt_of_le h.z.2 hb.size⟩⟩
/-- Is the place of the last one not ahead? -/
def naP (l p : List UInt8 × List UInt8) : Bool := !decide (cc l.1 l.2 0 p.1 p.2 0 < 0)

set_option maxHeartbeats 4000000 in
set_option maxRecDepth 100000 in
theorem tfirst1_any (b tb g cap n : Nat) (q : Option Addr) (ls : List (List UInt8 × List UInt8)) (p : List UInt8 × List UInt8) (k : Nat) (w : World) (hn : ls.length = n) (hk : k < ls.length) (hF : FsX w b tb p (.slice q n cap)) (hA : PArg w q g ls) :
    Calls Tryz.prog 82 #[.int .i64 (k : Int), .pointer (some ⟨b, 0, none⟩), .pointer (some ⟨b + 1, 0, none⟩)] w fun e w' => e = .returned (.bool (naP ls[k] p)) ∧ Below w.heap.size w w' := by
  obtain ⟨rfl, h2, h3, h4⟩ := hA k hk
  have ha := fun W => ahead_any ls[k] p W
  unfold naP
  generalize ls[k] = l at *
  obtain ⟨l1, l2⟩ := l
  obtain ⟨p1, p2⟩ := p
  obtain ⟨t0, y0, y1, tl, z⟩ := hF
  simp only at h2 h3 y0 y1 ha ⊢
  generalize decide (cc l1 l2 0 p1 p2 0 < 0) = d at *
  have hkn : (k : Int) < (n : Int) := by omega
  have z1 := z.1
  have z2 := z.2
  have hS : ∀ W, Below w.heap.size w W → W.cell? ⟨b, 0, none⟩ = some (.pointer (some ⟨tb, 0, none⟩)) ∧ W.cell? ⟨b + 1, 0, none⟩ = some (.string (bstr p1)) ∧ W.cell? ⟨b + 1, 1, none⟩ = some (.string (bstr p2)) ∧ W.cell? ⟨tb, 1, none⟩ = some (.slice (some ⟨g, 0, none⟩) n cap) ∧ W.cell? ⟨g, k * 2, none⟩ = some (.string (bstr l1)) ∧ W.cell? ⟨g, k * 2 + 1, none⟩ = some (.string (bstr l2)) := fun W hb =>
    ⟨by rw [(bcell hb).1 _ _ (by omega)]; exact t0, by rw [(bcell hb).1 _ _ z1]; exact y0, by rw [(bcell hb).1 _ _ z1]; exact y1, by rw [(bcell hb).1 _ _ z2]; exact tl, by rw [(bcell hb).1 _ _ h4]; exact h2, by rw [(bcell hb).1 _ _ h4]; exact h3⟩
  have s0 := hS w.drew ((Below.refl _ _).drew)
  have hbd : Below w.heap.size w w.drew := (Below.refl _ _).drew
  have HS : Hid _ := hS
  clear hS t0 y0 y1 tl h2 h3 z
  go_enter Tryz.func82, Tryz.ntmps82
  go_wp2_with fail
  go_region_held3 (fun W => W.cell? ⟨b, 0, none⟩ = some (.pointer (some ⟨tb, 0, none⟩)) ∧ W.cell? ⟨b + 1, 0, none⟩ = some (.string (bstr p1)) ∧ W.cell? ⟨b + 1, 1, none⟩ = some (.string (bstr p2)) ∧ W.cell? ⟨tb, 1, none⟩ = some (.slice (some ⟨g, 0, none⟩) n cap) ∧ W.cell? ⟨g, k * 2, none⟩ = some (.string (bstr l1)) ∧ W.cell? ⟨g, k * 2 + 1, none⟩ = some (.string (bstr l2)))
    (first | with_reducible exact s0 | with_reducible exact s1)
    (first | (go_at_call 42; with_reducible refine (ha _).mono ?_; rintro e W1 ⟨rfl, hb1⟩; have hb2 := below2 hbd hb1; have s1 := HS.out W1 hb2))
  go_wp2_with fail
  go_ret
  exact ⟨rfl, hb2⟩

theorem TB.parts {w : World} {tb : Nat} {vb vl : Value} {Bs : List (List Cl)} (h : TB w tb vb vl Bs) : ∃ q g cap q2 g2 cap2, vb = .slice q Bs.length cap ∧ Bl.SArg w q g 0 (Bs.map blkB) ∧ vl = .slice q2 Bs.length cap2 ∧ PArg w q2 g2 (Bs.map (lsP ([], []))) := by
  have h1 := h.rb
  have h2 := h.rl
  obtain ⟨q2, g2, cap2, e2, a2⟩ := own_parg (by simp) h2
  have h3 : w.ownsRow 0 9 1 vb (Bs.map blkB).length (strCells (Bs.map blkB)) := by rw [List.length_map]; exact h1
  obtain ⟨q, g, cap, e1, a1⟩ := own_sarg h3
  rw [List.length_map] at e1
  exact ⟨q, g, cap, q2, g2, cap2, e1, a1, e2, a2⟩
theorem TB.cells {w : World} {tb : Nat} {vb vl : Value} {Bs : List (List Cl)} (h : TB w tb vb vl Bs) : w.cell? ⟨tb, 0, none⟩ = some vb ∧ w.cell? ⟨tb, 1, none⟩ = some vl ∧ w.cell? ⟨tb, 2, none⟩ = some (.string (bstr (flt Bs))) ∧ w.cell? ⟨tb, 3, none⟩ = some (.int .i64 (Bs.flatten.length : Int)) ∧ tb < w.heap.size :=
  ⟨(Bl.cells_block h.t).1 0, (Bl.cells_block h.t).1 1, (Bl.cells_block h.t).1 2, (Bl.cells_block h.t).1 3, blk_lt h.t⟩

set_option maxHeartbeats 4000000 in
set_option maxRecDepth 100000 in
theorem first_any (tb : Nat) (vb vl : Value) (Bs : List (List Cl)) (p : List UInt8 × List UInt8) (w : World) (hT : TB w tb vb vl Bs) (hn : Bs.length ≤ 1000000000) :
    Calls Tryz.prog 37 #[.pointer (some ⟨tb, 0, none⟩), plV p] w fun e w' => ∃ r : Nat, e = .returned (.int .i64 (r : Int)) ∧ r ≤ Bs.length ∧ (∀ h : 0 < r ∧ r - 1 < Bs.length, naP (lsP ([], []) (Bs[r - 1]'h.2)) p = false) ∧ (∀ h : r < Bs.length, naP (lsP ([], []) Bs[r]) p = true) ∧ Below w.heap.size w w' := by
  have hmf : ∀ (fn : Fn) (first cap : Array Value) (w : World), (Instr.makeFunc fn first cap).run Tryz.prog w = .ok (.func fn first cap) w := fun _ _ _ _ => rfl
  obtain ⟨q, g, cap, q2, g2, cap2, e1, a1, e2, a2⟩ := hT.parts
  obtain ⟨c0, c1, c2, c3, hz⟩ := hT.cells
  rw [e2] at c1
  obtain ⟨p1, p2⟩ := p
  obtain ⟨W0, hW0⟩ : ∃ W0, W0 = (w.alloc (.cells #[.pointer (some ⟨tb, 0, none⟩)] 30)).alloc (.cells #[.string (bstr p1), .string (bstr p2)] 75) := ⟨_, rfl⟩
  have hb0 : Below w.heap.size w W0 := by rw [hW0]; exact ((Below.refl _ _).alloc (Nat.le_refl _) _).alloc (by simp) _
  have hw1 : W0.heap[w.heap.size]? = some (.cells #[.pointer (some ⟨tb, 0, none⟩)] 30 (0, 0)) := by rw [hW0]; exact (Below.heap_alloc _ _ _ (by simp)).trans (heap_alloc_new w _)
  have hw2 : W0.heap[w.heap.size + 1]? = some (.cells #[.string (bstr p1), .string (bstr p2)] 75 (0, 0)) := by
    rw [hW0]
    have := heap_alloc_new (w.alloc (.cells #[.pointer (some ⟨tb, 0, none⟩)] 30)) (.cells #[.string (bstr p1), .string (bstr p2)] 75)
    simpa using this
  have hF : FsX W0 w.heap.size tb (p1, p2) (.slice q2 Bs.length cap2) := ⟨(Bl.cells_block hw1).1 0, (Bl.cells_block hw2).1 0, (Bl.cells_block hw2).1 1, by rw [(bcell hb0).1 _ _ hz]; exact c1, ⟨blk_lt hw2, Nat.lt_of_lt_of_le hz hb0.size⟩⟩
  have hSe := fun W (h : Below w.heap.size w W ∧ FsX W w.heap.size tb (p1, p2) (.slice q2 Bs.length cap2)) => Search_any 82 #[.pointer (some ⟨w.heap.size, 0, none⟩), .pointer (some ⟨w.heap.size + 1, 0, none⟩)] (fun k => naP ((Bs.map (lsP ([], []))).getD k ([], [])) (p1, p2)) Bs.length (fun W => Below w.heap.size w W ∧ FsX W w.heap.size tb (p1, p2) (.slice q2 Bs.length cap2)) W hn (enters_of Tryz.func82 (by kernel_rfl) rfl)
    (fun k W1 hk h1 => by
      have hk2 : k < (Bs.map (lsP ([], []))).length := by rw [List.length_map]; exact hk
      refine (tfirst1_any w.heap.size tb g2 cap2 Bs.length q2 (Bs.map (lsP ([], []))) (p1, p2) k W1 (by simp) hk2 h1.2 (a2.below h1.1)).mono ?_
      rintro e W2 ⟨rfl, hb2⟩
      exact ⟨by rw [List.getD_eq_getElem?_getD, List.getElem?_eq_getElem hk2]; rfl, below2 h1.1 hb2, h1.2.below hb2⟩) h
  have c0' := hF.t
  have hdF : Below w.heap.size w W0.drew ∧ FsX W0.drew w.heap.size tb (p1, p2) (.slice q2 Bs.length cap2) := ⟨below2 hb0 ((Below.refl _ _).drew), hF.below ((Below.refl _ _).drew)⟩
  have h00 : Below w.heap.size w W0 ∧ FsX W0 w.heap.size tb (p1, p2) (.slice q2 Bs.length cap2) := ⟨hb0, hF⟩
  go_enter Tryz.func37, Tryz.ntmps37
  go_wp2_with fail
  rw [← hW0]
  refine (hSe W0 h00).mono ?_
  rintro e W1 ⟨r, rfl, hr, hr1, hr2, hb1, hF1⟩
  clear hSe h00 hdF hF c0'
  go_wp2_with fail
  go_ret
  have hg : ∀ (k : Nat) (h : k < Bs.length), (Bs.map (lsP ([], []))).getD k ([], []) = lsP ([], []) Bs[k] := fun k h => by rw [List.getD_eq_getElem?_getD, List.getElem?_map, List.getElem?_eq_getElem h]; rfl
  refine ⟨r, rfl, hr, fun h => ?_, fun h => ?_, hb1⟩
  · have := hr1 h.1
    rw [hg _ h.2] at this
    exact this
  · have := hr2 h
    rw [hg _ h] at this
    exact this

end Go.Proofs.YtmpnofbhbglfpaaGreatDoor

namespace Go.Proofs.YtmpnofbhbglfpaaGreatDoor
open Go.RowKit
attribute [local go_sem] size_bstr toList_bstr

/-- What Get answers, as it is found. -/
def GetO (Bs : List (List Cl)) (row col : List UInt8) (o : Option Cl) : Prop :=
  (Bl.hasF (flt Bs) (keyL row col) = false ∧ o = none) ∨ ∃ r, r ≤ Bs.length ∧ (∀ h : 0 < r ∧ r - 1 < Bs.length, naP (lsP ([], []) (Bs[r - 1]'h.2)) (row, col) = false) ∧ (∀ h : r < Bs.length, naP (lsP ([], []) Bs[r]) (row, col) = true) ∧ ((r = Bs.length ∧ o = none) ∨ ∃ h : r < Bs.length, o = fnd row col Bs[r])

set_option maxHeartbeats 4000000 in
set_option maxRecDepth 100000 in
theorem Get_any (tb : Nat) (vb vl : Value) (Bs : List (List Cl)) (row col : List UInt8) (w : World) (hT : TB w tb vb vl Bs) (hG : GB Bs) (hn : Bs.length ≤ 1000000000) (hf : (flt Bs).length ≤ 9223372036854775807) (hl : row.length + col.length ≤ 4611686018427387904) :
    Calls Tryz.prog 14 #[.pointer (some ⟨tb, 0, none⟩), .string (bstr row), .string (bstr col)] w fun e w' => ∃ o, e = .returned (.tuple #[clV (optC o), .bool o.isSome]) ∧ GetO Bs row col o ∧ Below w.heap.size w w' := by
  obtain ⟨c0, c1, c2, c3, hz⟩ := hT.cells
  have hkey := fun W => key_any row col W hl
  have hhas := fun W => Bl.Has_any (flt Bs) (keyL row col) W hf (by unfold keyL; rw [List.length_append, List.length_cons]; omega)
  have hfst := fun W (hb : Below w.heap.size w W) => first_any tb vb vl Bs (row, col) W (hT.below hb) hn
  obtain ⟨W0, hW0⟩ : ∃ W0, W0 = (w.alloc (.cells #[.string ⟨#[]⟩, .string ⟨#[]⟩, .int .u64 0, .bool false, .string ⟨#[]⟩] 39)).alloc (.cells #[.string (bstr row), .string (bstr col)] 75) := ⟨_, rfl⟩
  have hb0 : Below w.heap.size w W0 := by rw [hW0]; exact ((Below.refl _ _).alloc (Nat.le_refl _) _).alloc (by simp) _
  have hw1 : W0.heap[w.heap.size]? = some (.cells #[.string ⟨#[]⟩, .string ⟨#[]⟩, .int .u64 0, .bool false, .string ⟨#[]⟩] 39 (0, 0)) := by rw [hW0]; exact (Below.heap_alloc _ _ _ (by simp)).trans (heap_alloc_new w _)
  have hw2 : W0.heap[w.heap.size + 1]? = some (.cells #[.string (bstr row), .string (bstr col)] 75 (0, 0)) := by
    rw [hW0]
    have := heap_alloc_new (w.alloc (.cells #[.string ⟨#[]⟩, .string ⟨#[]⟩, .int .u64 0, .bool false, .string ⟨#[]⟩] 39)) (.cells #[.string (bstr row), .string (bstr col)] 75)
    simpa using this
  have hl2 := blk_lt hw2
  have hS : ∀ W, Below W0.heap.size W0 W → W.cell? ⟨tb, 2, none⟩ = some (.string (bstr (flt Bs))) ∧ W.cell? ⟨w.heap.size + 1, 0, none⟩ = some (.string (bstr row)) ∧ W.cell? ⟨w.heap.size + 1, 1, none⟩ = some (.string (bstr col)) := fun W hb =>
    ⟨by rw [(bcell (below2 hb0 hb)).1 _ _ hz]; exact c2, by rw [(bcell hb).1 _ _ hl2]; exact (Bl.cells_block hw2).1 0, by rw [(bcell hb).1 _ _ hl2]; exact (Bl.cells_block hw2).1 1⟩
  have s0 := hS W0.drew ((Below.refl _ _).drew)
  have hbd : Below W0.heap.size W0 W0.drew := (Below.refl _ _).drew
  have HS : Hid _ := hS
  clear hS
  go_enter Tryz.func14, Tryz.ntmps14
  go_wp2_with fail
  rw [← hW0]
  clear hW0
  go_region_held3 (fun W => W.cell? ⟨tb, 2, none⟩ = some (.string (bstr (flt Bs))) ∧ W.cell? ⟨w.heap.size + 1, 0, none⟩ = some (.string (bstr row)) ∧ W.cell? ⟨w.heap.size + 1, 1, none⟩ = some (.string (bstr col)))
    (first | with_reducible exact s0 | with_reducible exact s1 | with_reducible exact s2)
    (first
      | (go_at_call 36; with_reducible refine (hkey _).mono ?_; rintro e W1 ⟨rfl, hb1⟩; have hb1' := below2 hbd hb1; have s1 := HS.out W1 hb1')
      | (go_at_call 35; with_reducible refine (hhas _).mono ?_; rintro e W2 ⟨rfl, hb2⟩; have hb2' := below2 hb1' hb2; have s2 := HS.out W2 hb2'))
  have hbw := below2 hb0 hb2'
  have hz2 : Rz W2 w.heap.size := (show Rz W0 w.heap.size from hw1).step hb2'
  obtain ⟨y0, y1⟩ := s2.2
  cases hh : Bl.hasF (flt Bs) (keyL row col) with
  | false =>
    have HH : Hid (Bl.hasF (flt Bs) (keyL row col) = false) := hh
    obtain ⟨z0, z1, z2, z3, z4, f0, f1, f2, f3, f4⟩ := hz2.facts
    clear hfst hkey hhas
    go_wp2
    generalize hW : ((((W2.setCell ⟨w.heap.size, 0, none⟩ _).setCell ⟨w.heap.size, 1, none⟩ _).setCell ⟨w.heap.size, 2, none⟩ _).setCell ⟨w.heap.size, 3, none⟩ _).setCell ⟨w.heap.size, 4, none⟩ _ = W'
    obtain ⟨q0, q1, q2, q3, q4⟩ := set5_reads z0 z1 z2 z3 z4 hW
    refine bodyPost_ret (v := .tuple #[clV ⟨[], [], 0, false, []⟩, .bool false]) (by rw [results_cell_tmp Tryz.results14]; simp [go_sem, q0, q1, q2, q3, q4]; try rfl) rfl ⟨none, rfl, Or.inl ⟨HH.out, rfl⟩, ?_⟩
    rw [← hW]
    exact below_set5 _ _ _ _ _ hbw (Nat.le_refl _)
  | true =>
    have hf2 := hfst W2 hbw
    clear hfst hkey hhas
    obtain ⟨q, g, cap, q2, g2, cap2, e1, a1, e2, a2⟩ := hT.parts
    go_wp2_with (first | (go_at_call 37; with_reducible refine hf2.mono ?_; rintro e W3 ⟨r, rfl, hr, hr1, hr2, hb3⟩; refine Hid.out ?_))
    have hb3' := below2 hbw hb3
    have hz3 := hz2.step hb3
    obtain ⟨z0, z1, z2, z3, z4, f0, f1, f2, f3, f4⟩ := hz3.facts
    have cb : W3.cell? ⟨tb, 0, none⟩ = some (.slice q Bs.length cap) := by rw [(bcell hb3').1 _ _ hz, c0, e1]
    have HR : Hid _ := hr1
    have HR2 : Hid _ := hr2
    clear hr1 hr2 hf2
    by_cases hrn : r = Bs.length
    · have hri : (r : Int) = (Bs.length : Int) := by omega
      unfold Hid
      go_wp2
      generalize hW : ((((W3.setCell ⟨w.heap.size, 0, none⟩ _).setCell ⟨w.heap.size, 1, none⟩ _).setCell ⟨w.heap.size, 2, none⟩ _).setCell ⟨w.heap.size, 3, none⟩ _).setCell ⟨w.heap.size, 4, none⟩ _ = W'
      obtain ⟨q0, q1, q2, q3, q4⟩ := set5_reads z0 z1 z2 z3 z4 hW
      refine bodyPost_ret (v := .tuple #[clV ⟨[], [], 0, false, []⟩, .bool false]) (by rw [results_cell_tmp Tryz.results14]; simp [go_sem, q0, q1, q2, q3, q4]; try rfl) rfl ⟨none, rfl, Or.inr ⟨r, hr, HR.out, HR2.out, Or.inl ⟨hrn, rfl⟩⟩, ?_⟩
      rw [← hW]
      exact below_set5 _ _ _ _ _ hb3' (Nat.le_refl _)
    · have hlt : r < Bs.length := by omega
      unfold Hid
      have hri : ((r : Int) == (Bs.length : Int)) = false := by rw [beq_eq_false_iff_ne]; omega
      obtain ⟨rfl, hst, hgl⟩ := a1 (by rw [List.length_map]; omega)
      have cr : W3.cell? ⟨g, r, none⟩ = some (.string (bstr (blkB Bs[r]))) := by
        rw [(bcell hb3').1 _ _ hgl]
        have := hst r (by rw [List.length_map]; exact hlt)
        rw [List.getElem_map, Nat.zero_add] at this
        exact this
      have hgood := (hG.good Bs[r] (List.getElem_mem hlt)).1
      have hrlt : (r : Int) < (Bs.length : Int) := by omega
      have hfi : ∀ W, Calls Tryz.prog 38 #[.string (bstr (blkB Bs[r])), .string (bstr row), .string (bstr col)] W fun e w' => e = .returned (.tuple #[clV (optC (fnd row col Bs[r])), .bool (fnd row col Bs[r]).isSome, .int .i64 0]) ∧ Below W.heap.size W w' := fun W => by
        refine (Find_any (blkB Bs[r]) row col W (by have := hgood.long; omega)).mono ?_
        rintro e w' ⟨hQ, hb⟩
        rcases hQ with ⟨L, hL, hLb, rfl⟩ | ⟨_, hno⟩
        · have : L = Bs[r] := by
            have h1 := dec_blk hL
            rw [hLb, dec_blk hgood] at h1
            injection h1 with h1
            exact h1.symm
          rw [this]
          exact ⟨rfl, hb⟩
        · exact absurd rfl (hno Bs[r] hgood)
      have HO : Hid (GetO Bs row col (fnd row col Bs[r])) := Or.inr ⟨r, hr, HR.out, HR2.out, Or.inr ⟨hlt, rfl⟩⟩
      clear hgood hst a1 a2 HR HR2
      generalize fnd row col Bs[r] = o at *
      generalize blkB Bs[r] = bb at *
      go_wp2_with (first | (go_at_call 38; with_reducible refine (hfi _).mono ?_; rintro e W4 ⟨rfl, hb4⟩; refine Hid.out ?_))
      have hb4' := below2 hb3' hb4
      have hz4 := hz3.step hb4
      have HOP : Hid (optC o = optC o) := rfl
      generalize hoc : optC o = c at *
      obtain ⟨c1', c2', c3', c4', c5'⟩ := c
      have hW5 : Below W4.heap.size W4 (W4.alloc (.cells #[.string (bstr c1'), .string (bstr c2'), .int .u64 c3', .bool c4', .string (bstr c5')] 39)) := (Below.refl _ _).alloc (Nat.le_refl _) _
      have hz5 := hz4.step hW5
      have hb5' := below2 hb4' hW5
      obtain ⟨n0, n1, n2, n3, n4⟩ := CellAt.new W4 39 c1' c2' c3' c4' c5'
      obtain ⟨z0, z1, z2, z3, z4, f0, f1, f2, f3, f4⟩ := hz5.facts
      have HOC : Hid _ := hoc
      clear hoc HOP
      unfold Hid
      go_wp2_with fail
      generalize W4.alloc (.cells #[.string (bstr c1'), .string (bstr c2'), .int .u64 c3', .bool c4', .string (bstr c5')] 39) = W5 at *
      generalize hW : ((((W5.setCell ⟨w.heap.size, 0, none⟩ _).setCell ⟨w.heap.size, 1, none⟩ _).setCell ⟨w.heap.size, 2, none⟩ _).setCell ⟨w.heap.size, 3, none⟩ _).setCell ⟨w.heap.size, 4, none⟩ _ = W'
      obtain ⟨q0, q1, q2, q3, q4⟩ := set5_reads z0 z1 z2 z3 z4 hW
      refine bodyPost_ret (v := .tuple #[clV ⟨c1', c2', c3', c4', c5'⟩, .bool o.isSome]) (by rw [results_cell_tmp Tryz.results14]; simp [go_sem, q0, q1, q2, q3, q4]; try rfl) rfl ⟨o, by rw [HOC.out], HO.out, ?_⟩
      rw [← hW]
      exact below_set5 _ _ _ _ _ hb5' (Nat.le_refl _)

set_option maxHeartbeats 4000000 in
theorem TLen_any (tb : Nat) (vb vl : Value) (Bs : List (List Cl)) (w : World) (hT : TB w tb vb vl Bs) :
    Calls Tryz.prog 20 #[.pointer (some ⟨tb, 0, none⟩)] w fun e w' => e = .returned (.int .i64 (Bs.flatten.length : Int)) ∧ Below w.heap.size w w' := by
  obtain ⟨c0, c1, c2, c3, hz⟩ := hT.cells
  clear hT
  generalize Bs.flatten.length = n at *
  go_enter Tryz.func20, Tryz.ntmps20
  go_wp2
  go_ret
  exact ⟨rfl, by first | exact Below.refl _ _ | exact (Below.refl _ _).drew⟩
set_option maxHeartbeats 4000000 in
theorem TBlocks_any (tb : Nat) (vb vl : Value) (Bs : List (List Cl)) (w : World) (hT : TB w tb vb vl Bs) :
    Calls Tryz.prog 21 #[.pointer (some ⟨tb, 0, none⟩)] w fun e w' => e = .returned (.int .i64 (Bs.length : Int)) ∧ Below w.heap.size w w' := by
  obtain ⟨c0, c1, c2, c3, hz⟩ := hT.cells
  obtain ⟨q, g, cap, q2, g2, cap2, e1, a1, e2, a2⟩ := hT.parts
  rw [e1] at c0
  go_enter Tryz.func21, Tryz.ntmps21
  go_wp2
  go_ret
  exact ⟨rfl, by first | exact Below.refl _ _ | exact (Below.refl _ _).drew⟩

end Go.Proofs.YtmpnofbhbglfpaaGreatDoor

namespace Go.Proofs.YtmpnofbhbglfpaaGreatDoor
open Go.RowKit

theorem fnd_append (row col : List UInt8) (a b : List Cl) : fnd row col (a ++ b) = (fnd row col a).or (fnd row col b) := by
  induction a with
  | nil => rfl
  | cons c a ih =>
    rw [List.cons_append, fnd, fnd]
    split
    · rfl
    · exact ih
theorem fnd_mem {row col : List UInt8} {l : List Cl} (h : fnd row col l = none) : ∀ c ∈ l, ¬ (c.row = row ∧ c.col = col) := by
  induction l with
  | nil => intro c hc; cases hc
  | cons d l ih =>
    rw [fnd] at h
    split at h
    · cases h
    · rename_i hd
      intro c hc
      rcases List.mem_cons.1 hc with rfl | hc
      · exact hd
      · exact ih h c hc
/-- A cell's place, as a cell. -/
def pz (r c : List UInt8) : Cl := ⟨r, c, 0, false, []⟩
theorem pz_zero {r c r' c' : List UInt8} : ccl (pz r c) (pz r' c') = 0 ↔ r = r' ∧ c = c' := by
  rw [ccl_zero]
  exact ⟨fun h => ⟨h.1, h.2.1⟩, fun h => ⟨h.1, h.2, rfl⟩⟩
theorem pz_le {a b : Cl} (h : ccl a b ≤ 0) : ccl (pz a.row a.col) (pz b.row b.col) ≤ 0 := by
  unfold ccl cc or3 at h ⊢
  unfold pz
  simp only at h ⊢
  split
  · split
    · unfold Lib.compareInt; simp
    · rename_i h1 h2
      rw [if_pos h1, if_neg h2] at h
      exact h
  · rename_i h1
    rw [if_neg h1] at h
    exact h
theorem naP_iff {l p : List UInt8 × List UInt8} : naP l p = false ↔ ccl (pz l.1 l.2) (pz p.1 p.2) < 0 := by
  unfold naP
  show (!decide (ccl (pz l.1 l.2) (pz p.1 p.2) < 0)) = false ↔ _
  simp
theorem okC_place {c : Cl} (h : okC c = true) : plP c ≠ ([], []) := by
  intro e
  have e1 : c.row = [] := congrArg Prod.fst e
  have e2 : c.col = [] := congrArg Prod.snd e
  unfold okC mayC at h
  rw [e1, e2] at h
  simp at h
/-- Of cells in order: the last of a part is not ahead of one of it. -/
theorem asc_le_last {l : List Cl} (h : Asc l) (hn : l ≠ []) {c : Cl} (hc : c ∈ l) : ccl c (l.getLast hn) ≤ 0 := asc_last h (List.getLast?_eq_some_getLast hn) hc
theorem get_math {Bs : List (List Cl)} {row col : List UInt8} {o : Option Cl} (hG : GB Bs) (h : GetO Bs row col o) : o = fnd row col Bs.flatten := by
  rcases h with ⟨hh, rfl⟩ | ⟨r, hr, h1, h2, h3⟩
  · refine (fnd_none fun c hc hp => ?_).symm
    have hm := mem_nmsF (p := ([], [])) hc (okC_place (List.all_eq_true.1 hG.ok c hc))
    rw [hp.1, hp.2] at hm
    have := Bl.hasF_mk (b := 10) hm
    unfold flt names at hh
    rw [this] at hh
    cases hh
  · have hasc := hG.asc
    have e : Bs = Bs.take r ++ Bs.drop r := (List.take_append_drop r Bs).symm
    have hfl : Bs.flatten = (Bs.take r).flatten ++ (Bs.drop r).flatten := by conv => lhs; rw [e, List.flatten_append]
    rw [hfl] at hasc ⊢
    have hhead : ∀ c ∈ (Bs.take r).flatten, ¬ (c.row = row ∧ c.col = col) := by
      intro c hc hp
      by_cases h0 : r = 0
      · subst h0; simp at hc
      · have hrl : r - 1 < Bs.length := by omega
        have hlt := naP_iff.1 (h1 ⟨by omega, hrl⟩)
        have hne := (hG.good Bs[r - 1] (List.getElem_mem hrl)).2
        rw [lsP_last _ hne] at hlt
        have ht : Bs.take r = Bs.take (r - 1) ++ [Bs[r - 1]] := by
          have := List.take_succ_eq_append_getElem hrl
          rw [show r - 1 + 1 = r by omega] at this
          exact this
        have hA : Asc (Bs.take r).flatten := (List.pairwise_append.1 hasc).1
        rw [ht, List.flatten_append, List.flatten_singleton] at hc hA
        have hle : ccl c (Bs[r - 1].getLast hne) ≤ 0 := by
          have hn2 : (Bs.take (r - 1)).flatten ++ Bs[r - 1] ≠ [] := by simp [hne]
          have h5 := asc_le_last hA hn2 hc
          rw [List.getLast_append_of_ne_nil hn2 hne] at h5
          exact h5
        have h6 := ccl_le_lt (pz_le hle) hlt
        have h7 := (pz_zero (r := c.row) (c := c.col) (r' := row) (c' := col)).2 hp
        simp only at h6
        omega
    rw [fnd_append, fnd_none hhead]
    rcases h3 with ⟨h3, rfl⟩ | ⟨hlt, rfl⟩
    · rw [h3, List.drop_length]
      rfl
    · rw [List.drop_eq_getElem_cons hlt, List.flatten_cons, fnd_append]
      cases hf : fnd row col Bs[r] with
      | some c => rfl
      | none =>
        have hne := (hG.good Bs[r] (List.getElem_mem hlt)).2
        have h5 := h2 hlt
        rw [lsP_last _ hne] at h5
        have h6 : ¬ ccl (pz (Bs[r].getLast hne).row (Bs[r].getLast hne).col) (pz row col) < 0 := fun hx => by
          have := naP_iff (l := plP (Bs[r].getLast hne)) (p := (row, col)) |>.2 hx
          rw [this] at h5
          cases h5
        have hA : Asc (Bs.drop r).flatten := (List.pairwise_append.1 hasc).2.1
        rw [List.drop_eq_getElem_cons hlt, List.flatten_cons] at hA
        refine (fnd_none fun d hd hp => ?_).symm
        have h7 := (List.pairwise_append.1 hA).2.2 _ (List.getLast_mem hne) d hd
        have h8 := pz_le (Int.le_of_lt h7)
        have h9 := (pz_zero (r := d.row) (c := d.col) (r' := row) (c' := col)).2 hp
        have h10 := ccl_le_trans h8 (show ccl (pz d.row d.col) (pz row col) ≤ 0 by omega)
        have h11 := pz_zero.1 (show ccl (pz (Bs[r].getLast hne).row (Bs[r].getLast hne).col) (pz row col) = 0 by omega)
        exact fnd_mem hf _ (List.getLast_mem hne) h11

end Go.Proofs.YtmpnofbhbglfpaaGreatDoor
