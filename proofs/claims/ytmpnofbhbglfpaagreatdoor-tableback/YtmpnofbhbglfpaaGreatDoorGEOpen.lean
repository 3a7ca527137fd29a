/-
  A cell that shares nothing with another one; the cells of a range.
  How arguments that are lists of cells are read, with the bounds that every argument bears.
-/
import Derived.Test.YtmpnofbhbglfpaaGreatDoorGCRow
import Derived.BigQuiet
import Derived.Deep.RegionHeld3
import Derived.Test.YtmpnofbhbglfpaaGreatDoorShelf
import Derived.Test.YtmpnofbhbglfpaaGreatDoorRows
import Derived.Test.YtmpnofbhbglfpaaGreatDoorGKFn
import Derived.ProofKit
import Derived.OpenShut
import Derived.ShutString
import Derived.ChangeSame
import Derived.Carry
import Derived.ChangeSlices
import Derived.Deep.Slices
import Derived.SizedLaws
namespace Go.Proofs.YtmpnofbhbglfpaaGreatDoor
open Go.RowKit Go.BigFrame Go.Sort
attribute [local go_sem] size_bstr toList_bstr ls_def

set_option maxHeartbeats 1000000 in
theorem CClone_any (l : List UInt8) (w : World) (hl : l.length ≤ 281474976710656) :
    Calls Tryz.prog 39 #[.string (bstr l)] w fun e w' => e = .returned (.string (bstr l)) ∧ Below w.heap.size w w' := by
  go_enter Tryz.func39, Tryz.ntmps39
  go_wp2_with fail
  refine (Tryz.stringslite_Clone (bstr l) _ (by rw [size_bstr]; exact hl)).mono ?_
  rintro e w' ⟨rfl, hb⟩
  go_wp2
  go_ret
  exact ⟨rfl, hb⟩

/-- How long the texts of a cell may be: no longer than what a place of memory has. -/
def Fits (c : Cl) : Prop := c.row.length ≤ 140737488351232 ∧ c.col.length ≤ 140737488351232 ∧ c.val.length ≤ 140737488351232

/-- A store of what is there changes nothing. -/
theorem setCell_noop {W : World} {n o : Nat} {v : Value} (h : W.cell? ⟨n, o, none⟩ = some v) : W.setCell ⟨n, o, none⟩ v = W := by
  have hlt := block_lt_of_cell h
  have e : W.heap.modify n (fun | .cells c elem frozen => .cells (if (none : Option (Nat × Nat)).isSome then c else c.setIfInBounds o v) elem frozen | o => o) = W.heap := by
    apply Array.ext_getElem?
    intro k
    rw [Array.getElem?_modify]
    split
    · rename_i hk
      subst hk
      simp only [World.cell?] at h
      cases hb : W.heap[n]? with
      | none => rfl
      | some ob =>
        rw [hb] at h
        cases ob with
        | cells c t fz =>
          simp at h
          simp
          apply Array.ext_getElem?
          intro j
          rw [Array.getElem?_setIfInBounds]
          split
          · rename_i hj
            subst hj
            rw [h]
            split
            · rfl
            · rename_i hh
              rw [Array.getElem?_eq_none (by omega)] at h
              cases h
          · rfl
        | _ => rfl
    · rfl
  cases W
  simp only [World.setCell] at e ⊢
  congr 1

/-- A cell in a block of its own, and a block behind it for what is answered. -/
structure Fr (n : Nat) (c : Cl) (W : World) : Prop where
  a : W.heap[n]? = some (.cells #[.string (bstr c.row), .string (bstr c.col), .int .u64 c.ver, .bool c.gone, .string (bstr c.val)] 39 (0, 0))
  b : W.heap[n + 1]? = some (.cells #[.string ⟨#[]⟩, .string ⟨#[]⟩, .int .u64 0, .bool false, .string ⟨#[]⟩] 39 (0, 0))
theorem Fr.start (w : World) (c : Cl) : Fr w.heap.size c ((w.alloc (.cells #[.string (bstr c.row), .string (bstr c.col), .int .u64 c.ver, .bool c.gone, .string (bstr c.val)] 39)).alloc (.cells #[.string ⟨#[]⟩, .string ⟨#[]⟩, .int .u64 0, .bool false, .string ⟨#[]⟩] 39)) := by
  constructor
  · exact (Below.heap_alloc _ _ _ (by simp)).trans (heap_alloc_new w _)
  · have e : (w.alloc (.cells #[.string (bstr c.row), .string (bstr c.col), .int .u64 c.ver, .bool c.gone, .string (bstr c.val)] 39)).heap.size = w.heap.size + 1 := by simp
    rw [← e]
    exact heap_alloc_new _ _
theorem Fr.lt {n : Nat} {c : Cl} {W : World} (h : Fr n c W) : n + 1 < W.heap.size := lt_of_block h.b
theorem Fr.step {n : Nat} {c : Cl} {W W' : World} (h : Fr n c W) (hb : Below W.heap.size W W') : Fr n c W' := by
  have hl := h.lt
  exact ⟨(hb.block n (by omega)).trans h.a, (hb.block (n + 1) hl).trans h.b⟩
theorem Fr.drew {n : Nat} {c : Cl} {W : World} (h : Fr n c W) : Fr n c W.drew := ⟨h.a, h.b⟩
theorem Fr.facts {n : Nat} {c : Cl} {W : World} (h : Fr n c W) : W.cell? ⟨n, 0, none⟩ = some (.string (bstr c.row)) ∧ W.cell? ⟨n, 1, none⟩ = some (.string (bstr c.col)) ∧ W.cell? ⟨n, 2, none⟩ = some (.int .u64 c.ver) ∧ W.cell? ⟨n, 3, none⟩ = some (.bool c.gone) ∧ W.cell? ⟨n, 4, none⟩ = some (.string (bstr c.val)) ∧
    W.frozen? ⟨n, 0, none⟩ = false ∧ W.frozen? ⟨n, 1, none⟩ = false ∧ W.frozen? ⟨n, 4, none⟩ = false := by
  have ha := h.a
  refine ⟨?_, ?_, ?_, ?_, ?_, ?_, ?_, ?_⟩ <;> simp [World.cell?, World.frozen?, ha]
theorem Fr.still {n : Nat} {c : Cl} {W : World} (h : Fr n c W) : W.setCell ⟨n, 0, none⟩ (.string (bstr c.row)) = W ∧ W.setCell ⟨n, 1, none⟩ (.string (bstr c.col)) = W ∧ W.setCell ⟨n, 4, none⟩ (.string (bstr c.val)) = W := by
  obtain ⟨a0, a1, _, _, a4, _⟩ := h.facts
  exact ⟨setCell_noop a0, setCell_noop a1, setCell_noop a4⟩

theorem Fr.res {n : Nat} {c : Cl} {W : World} (h : Fr n c W) : W.cell? ⟨n + 1, 0, none⟩ = some (.string ⟨#[]⟩) ∧ W.cell? ⟨n + 1, 1, none⟩ = some (.string ⟨#[]⟩) ∧ W.cell? ⟨n + 1, 2, none⟩ = some (.int .u64 0) ∧ W.cell? ⟨n + 1, 3, none⟩ = some (.bool false) ∧ W.cell? ⟨n + 1, 4, none⟩ = some (.string ⟨#[]⟩) ∧
    W.frozen? ⟨n + 1, 0, none⟩ = false ∧ W.frozen? ⟨n + 1, 1, none⟩ = false ∧ W.frozen? ⟨n + 1, 2, none⟩ = false ∧ W.frozen? ⟨n + 1, 3, none⟩ = false ∧ W.frozen? ⟨n + 1, 4, none⟩ = false := by
  have ha := h.b
  refine ⟨?_, ?_, ?_, ?_, ?_, ?_, ?_, ?_, ?_, ?_⟩ <;> simp [World.cell?, World.frozen?, ha]
/-- Five stores into a block of five cells: what is there behind them. -/
theorem set5_reads {W : World} {n : Nat} {p q r s t u0 u1 u2 u3 u4 : Value} (d0 : W.cell? ⟨n, 0, none⟩ = some u0) (d1 : W.cell? ⟨n, 1, none⟩ = some u1) (d2 : W.cell? ⟨n, 2, none⟩ = some u2) (d3 : W.cell? ⟨n, 3, none⟩ = some u3) (d4 : W.cell? ⟨n, 4, none⟩ = some u4)
    {W' : World} (hW : ((((W.setCell ⟨n, 0, none⟩ p).setCell ⟨n, 1, none⟩ q).setCell ⟨n, 2, none⟩ r).setCell ⟨n, 3, none⟩ s).setCell ⟨n, 4, none⟩ t = W') :
    W'.cell? ⟨n, 0, none⟩ = some p ∧ W'.cell? ⟨n, 1, none⟩ = some q ∧ W'.cell? ⟨n, 2, none⟩ = some r ∧ W'.cell? ⟨n, 3, none⟩ = some s ∧ W'.cell? ⟨n, 4, none⟩ = some t := by
  subst hW
  refine ⟨?_, ?_, ?_, ?_, ?_⟩ <;> go_simp
theorem below_set5 {B : Nat} {w W : World} {n : Nat} (p q r s t : Value) (hB : Below B w W) (h : B ≤ n) : Below B w (((((W.setCell ⟨n, 0, none⟩ p).setCell ⟨n, 1, none⟩ q).setCell ⟨n, 2, none⟩ r).setCell ⟨n, 3, none⟩ s).setCell ⟨n, 4, none⟩ t) :=
  ((((hB.setCell (p := ⟨n, 0, none⟩) h p).setCell (p := ⟨n, 1, none⟩) h q).setCell (p := ⟨n, 2, none⟩) h r).setCell (p := ⟨n, 3, none⟩) h s).setCell (p := ⟨n, 4, none⟩) h t

set_option maxHeartbeats 4000000 in
set_option maxRecDepth 100000 in
theorem fresh_any (c : Cl) (w : World) (hc : Fits c) :
    Calls Tryz.prog 90 #[clV c] w fun e w' => e = .returned (clV c) ∧ Below w.heap.size w w' := by
  obtain ⟨r, k, v, g, x⟩ := c
  obtain ⟨h1, h2, h3⟩ := hc
  simp only at h1 h2 h3
  have hF := Fr.start w ⟨r, k, v, g, x⟩
  have hB : Below w.heap.size w ((w.alloc (.cells #[.string (bstr r), .string (bstr k), .int .u64 v, .bool g, .string (bstr x)] 39)).alloc (.cells #[.string ⟨#[]⟩, .string ⟨#[]⟩, .int .u64 0, .bool false, .string ⟨#[]⟩] 39)) := ((Below.refl _ _).alloc (Nat.le_refl _) _).alloc (by simp) _
  go_enter Tryz.func90, Tryz.ntmps90
  go_wp2_with fail
  generalize (w.alloc (.cells #[.string (bstr r), .string (bstr k), .int .u64 v, .bool g, .string (bstr x)] 39)).alloc (.cells #[.string ⟨#[]⟩, .string ⟨#[]⟩, .int .u64 0, .bool false, .string ⟨#[]⟩] 39) = W at *
  obtain ⟨c0, c1, _, _, c4, f0, f1, f4⟩ := hF.facts
  simp only at c0 c1 c4
  go_region_held3 (fun w' => w'.cell? ⟨w.heap.size, 0, none⟩ = some (.string (bstr r)) ∧ w'.cell? ⟨w.heap.size, 1, none⟩ = some (.string (bstr k)) ∧ w'.cell? ⟨w.heap.size, 4, none⟩ = some (.string (bstr x))) (first | with_reducible exact ⟨c0, c1, c4⟩ | go_keep)
    (first
      | (go_at_call 39; refine (CClone_any _ _ (by omega)).mono ?_; rintro e wf ⟨rfl, hbf⟩; replace hB := below2 hB.drew hbf; replace hF := hF.drew.step hbf; clear c0 c1 c4 f0 f1 f4; obtain ⟨c0, c1, _, _, c4, f0, f1, f4⟩ := hF.facts; obtain ⟨n0, n1, n4⟩ := hF.still; simp only at c0 c1 c4 n0 n1 n4; clear hbf)
      | (go_at_call 39; refine (CClone_any _ _ (by omega)).mono ?_; rintro e wf ⟨rfl, hbf⟩; replace hB := below2 hB hbf; replace hF := hF.step hbf; clear c0 c1 c4 f0 f1 f4 n0 n1 n4; obtain ⟨c0, c1, _, _, c4, f0, f1, f4⟩ := hF.facts; obtain ⟨n0, n1, n4⟩ := hF.still; simp only at c0 c1 c4 n0 n1 n4; clear hbf))
  obtain ⟨d0, d1, d2, d3, d4, g0, g1, g2, g3, g4⟩ := hF.res
  obtain ⟨_, _, c2, c3, _⟩ := hF.facts
  simp only at c2 c3
  clear n0 n1 n4 f0 f1 f4
  go_wp2
  generalize hW : ((((wf.setCell ⟨w.heap.size + 1, 0, none⟩ _).setCell ⟨w.heap.size + 1, 1, none⟩ _).setCell ⟨w.heap.size + 1, 2, none⟩ _).setCell ⟨w.heap.size + 1, 3, none⟩ _).setCell ⟨w.heap.size + 1, 4, none⟩ _ = W'
  obtain ⟨r0, r1, r2, r3, r4⟩ := set5_reads d0 d1 d2 d3 d4 hW
  refine bodyPost_ret (v := clV ⟨r, k, v, g, x⟩) (by simp [results, Tryz.results90, go_sem, r0, r1, r2, r3, r4]) rfl ⟨rfl, ?_⟩
  rw [← hW]
  exact below_set5 _ _ _ _ _ hB (Nat.le_succ _)

theorem own_mono {w : World} {B B' e size n : Nat} {v : Value} {xs : List Value} (h : w.ownsRow B e size v n xs) (hb : B' ≤ B) : w.ownsRow B' e size v n xs := by
  rcases h.2 with h0 | ⟨g, cap, cur, hv, hbg, r⟩
  · exact ⟨h.1, .inl h0⟩
  · exact ⟨h.1, .inr ⟨g, cap, cur, hv, Nat.le_trans hb hbg, r⟩⟩

/-- The cells of a range. -/
def withinL (lo hi : List UInt8) (l : List Cl) : List Cl := l.filter fun c => hasB lo hi c.row
theorem within_yes {lo hi : List UInt8} {l : List Cl} {i : Nat} (h : i < l.length) (k : hasB lo hi l[i].row = true) : withinL lo hi (l.take (i + 1)) = withinL lo hi (l.take i) ++ [l[i]] := by
  unfold withinL
  rw [List.take_succ_eq_append_getElem h, List.filter_append]
  simp [k]
theorem within_no {lo hi : List UInt8} {l : List Cl} {i : Nat} (h : i < l.length) (k : hasB lo hi l[i].row = false) : withinL lo hi (l.take (i + 1)) = withinL lo hi (l.take i) := by
  unfold withinL
  rw [List.take_succ_eq_append_getElem h, List.filter_append]
  simp [k]
theorem within_len (lo hi : List UInt8) (l : List Cl) (i : Nat) : (withinL lo hi (l.take i)).length ≤ i := Nat.le_trans (List.length_filter_le _ _) (by simp; omega)

/-- One cell appended to a row that the call owns. -/
theorem cell_news (W : World) (c : Cl) (t : TypeId) : ∀ j u, (encC c)[j]? = some u → (W.alloc (.cells #[.string (bstr c.row), .string (bstr c.col), .int .u64 c.ver, .bool c.gone, .string (bstr c.val)] t)).cell? ((⟨W.heap.size, 0, none⟩ : Addr).add j) = some u := by
  intro j u hj
  have := World.cell?_alloc_at (w := W) #[.string (bstr c.row), .string (bstr c.col), .int .u64 c.ver, .bool c.gone, .string (bstr c.val)] t W.heap.size j rfl
  rw [Addr.add_lit, Nat.zero_add, this]
  simp only [encC] at hj
  rw [← hj]
  match j with
  | 0 => rfl
  | 1 => rfl
  | 2 => rfl
  | 3 => rfl
  | 4 => rfl
  | n + 5 => rfl

end Go.Proofs.YtmpnofbhbglfpaaGreatDoor

namespace Go.Proofs.YtmpnofbhbglfpaaGreatDoor
set_option maxRecDepth 100000
open Go.ChangeShapes Go.WideShapes Go.ChangeAt Go.RowKit Go.Deep

theorem k_own : ownKnob Tryz.prog.godebug = none := by kernel_rfl
theorem k_laidOut : laidOutB Tryz.prog = true := by kernel_rfl
theorem string_cells : Tryz.prog.cellsOf 9 = 1 := by kernel_rfl
theorem cell_cells : Tryz.prog.cellsOf 39 = 5 := by kernel_rfl
theorem u64_cells : Tryz.prog.cellsOf 37 = 1 := by kernel_rfl
theorem bool_cells : Tryz.prog.cellsOf 4 = 1 := by kernel_rfl
theorem Tryz.bytesCell : Tryz.prog.bytesOf 39 = 64 := by kernel_rfl

section
variable {H : Type} {enc : TypeId × Value → H} {w : World} {base : Nat} {spare : Nat → Bool} {held : Bool}

theorem trod_struct5x {P : Program} {t : TypeId} {f0 f1 f2 f3 f4 : Field} {fuel : Nat} {cs : List Value} {x : DataW H × List MemPlace} (ht : P.underlying t = some (.struct #[f0, f1, f2, f3, f4])) (h : DataW.trod enc P w base spare held fuel t cs = some x) :
    ∃ y0 y1 y2 y3 y4 n, x.1 = .agg [y0.1, y1.1, y2.1, y3.1, y4.1] ∧ cs.length = P.cellsOf t ∧ DataW.trod enc P w base spare held n f0.type ((cs.drop f0.offset).take (P.cellsOf f0.type)) = some y0 ∧
      DataW.trod enc P w base spare held n f1.type ((cs.drop f1.offset).take (P.cellsOf f1.type)) = some y1 ∧ DataW.trod enc P w base spare held n f2.type ((cs.drop f2.offset).take (P.cellsOf f2.type)) = some y2 ∧
      DataW.trod enc P w base spare held n f3.type ((cs.drop f3.offset).take (P.cellsOf f3.type)) = some y3 ∧ DataW.trod enc P w base spare held n f4.type ((cs.drop f4.offset).take (P.cellsOf f4.type)) = some y4 := by
  obtain ⟨xs, n, _, rfl, hl, hlen, hf⟩ := DataW.trod_struct ht h
  match xs, hlen with
  | [y0, y1, y2, y3, y4], _ => exact ⟨y0, y1, y2, y3, y4, n, by simp, hl, by simpa using hf 0 f0 rfl, by simpa using hf 1 f1 rfl, by simpa using hf 2 f2 rfl, by simpa using hf 3 f3 rfl, by simpa using hf 4 f4 rfl⟩
/-- A cell read, with its bounds. -/
theorem view_cell {fuel : Nat} {cs : List Value} {x : DataW H × List MemPlace} (h : DataW.trod enc Tryz.prog w base spare held fuel 39 cs = some x) (hw : (x.1.weights Tryz.prog 39).all (· ≤ reachBytes) = true) :
    ∃ c : Cl, cs = encC c ∧ Fits c := by
  obtain ⟨y0, y1, y2, y3, y4, n, hx, hl, h0, h1, h2, h3, h4⟩ := trod_struct5x Tryz.underlying39 h
  rw [cell_cells] at hl
  match cs, hl with
  | [c0, c1, c2, c3, c4], _ =>
    simp only [string_cells, u64_cells, bool_cells, List.drop_zero, List.drop_succ_cons, List.take_succ_cons, List.take_zero] at h0 h1 h2 h3 h4
    obtain ⟨s, e0, k0⟩ := DataW.trod_string Tryz.underlying9 h0
    obtain ⟨t, e1, k1⟩ := DataW.trod_string Tryz.underlying9 h1
    obtain ⟨m, e2, k2⟩ := DataW.trod_int Tryz.underlying37 h2
    obtain ⟨g, e3, k3⟩ := DataW.trod_bool Tryz.underlying4 h3
    obtain ⟨u, e4, k4⟩ := DataW.trod_string Tryz.underlying9 h4
    simp only [List.cons.injEq, and_true] at e0 e1 e2 e3 e4
    subst e0 e1 e2 e3 e4
    obtain ⟨rfl, _⟩ := k0
    obtain ⟨rfl, _⟩ := k1
    obtain ⟨rfl, _⟩ := k2
    obtain ⟨rfl, _⟩ := k4
    subst k3
    refine ⟨⟨s.data.toList, t.data.toList, m, g, u.data.toList⟩, by simp only [encC, bstr_data], ?_⟩
    rw [hx] at hw
    simp only [DataW.weights, Tryz.underlying39, DataW.weightsEach, List.map_cons, List.map_nil] at hw
    simp only [List.append_nil, List.nil_append, List.cons_append, List.all_cons, List.all_nil, Bool.and_eq_true, reachBytes] at hw
    exact ⟨of_decide_eq_true hw.1, of_decide_eq_true hw.2.1, of_decide_eq_true hw.2.2.1⟩
theorem weights_mem_all {P : Program} {e : TypeId} : ∀ {ds : List (DataW H)} {d : DataW H}, d ∈ ds → ∀ n ∈ d.weights P e, n ∈ DataW.weightsAll P e ds
  | d0 :: ds, d, hd, n, hn => by
    simp only [DataW.weightsAll, List.mem_append]
    rcases List.mem_cons.1 hd with rfl | hd
    · exact Or.inl hn
    · exact Or.inr (weights_mem_all hd n hn)
/-- A list of cells read, with its bounds. -/
theorem view_cells {fuel : Nat} {vs : List Value} {x : DataW H × List MemPlace} (h : DataW.trod enc Tryz.prog w base spare held fuel 22 vs = some x) (hw : (x.1.weights Tryz.prog 22).all (· ≤ reachBytes) = true) :
    ∃ (q : Option Addr) (b off cap : Nat) (cs : List Cl), vs = [.slice q cs.length cap] ∧ (0 < cs.length → q = some ⟨b, off, none⟩ ∧ CRow w b off cs ∧ b < w.heap.size) ∧ (∀ c ∈ cs, Fits c) ∧ cs.length * 64 ≤ 140737488351232 ∧ cs.length ≤ cap ∧ cap ≤ maxLen ∧ (q = none → cs = [] ∧ cap = 0) := by
  rcases open_slice Tryz.underlying22 h with ⟨h0, _⟩ | ⟨a, len, cap, m, n, D, Pl, rfl, hb, hl, hm, hmm, hxx, hx⟩
  · exact ⟨none, 0, 0, 0, [], h0, fun h => absurd h (by simp), by simp, by simp, Nat.le_refl _, Nat.zero_le _, fun _ => ⟨rfl, rfl⟩⟩
  have hlm : len ≤ m := by rw [hmm]; split <;> omega
  rw [hxx] at hw
  simp only [DataW.weights, Tryz.underlying22] at hw
  rw [List.all_cons, Bool.and_eq_true, decide_eq_true_eq, Tryz.bytesCell] at hw
  obtain ⟨hw1, hw2⟩ := hw
  simp only [List.length_map, List.length_range, reachBytes] at hw1
  have hspot : 0 < len → a.spot = none := by
    intro h0
    obtain ⟨cs', h1, h2⟩ := hx 0 (by omega)
    rw [cell_cells] at h1
    obtain ⟨_, hlen, hcell⟩ := World.cells?_some h1
    have e0 := hcell 0 (by omega)
    have hsp := World.cell?_spot (e0.trans (List.getElem?_eq_getElem (by omega)))
    simpa [Addr.add] using hsp
  have each : ∀ i, i < len → ∃ c : Cl, At5 w a.block (a.off + i * 5) c ∧ Fits c ∧ a.spot = none := by
    intro i hi
    have hs := hspot (by omega)
    obtain ⟨cs', h1, h2⟩ := hx i (by omega)
    rw [cell_cells] at h1
    obtain ⟨_, hlen, hcell⟩ := World.cells?_some h1
    obtain ⟨c, rfl, hf⟩ := view_cell h2 (by
      rw [List.all_eq_true] at hw2 ⊢
      intro n hn
      refine hw2 n (List.mem_append.2 (Or.inl (weights_mem_all (d := D i) ?_ n hn)))
      exact List.mem_map.2 ⟨i, by simpa using hi, rfl⟩)
    have e0 := hcell 0 (by omega)
    have e1 := hcell 1 (by omega)
    have e2 := hcell 2 (by omega)
    have e3 := hcell 3 (by omega)
    have e4 := hcell 4 (by omega)
    obtain ⟨ab, ao, sp⟩ := a
    simp only at hs
    subst hs
    simp only [Addr.add_lit, Nat.add_zero] at e0 e1 e2 e3 e4
    exact ⟨c, ⟨e0.trans rfl, e1.trans rfl, e2.trans rfl, e3.trans rfl, e4.trans rfl⟩, hf, rfl⟩
  have : ∀ k, k ≤ len → ∃ cs : List Cl, cs.length = k ∧ CRow w a.block a.off cs ∧ ∀ c ∈ cs, Fits c := by
    intro k
    induction k with
    | zero => exact fun _ => ⟨[], rfl, fun i hi => by simp at hi, by simp⟩
    | succ k ih =>
      intro hk
      obtain ⟨cs, h1, h2, h3⟩ := ih (by omega)
      obtain ⟨y, hy, hyf, _⟩ := each k (by omega)
      refine ⟨cs ++ [y], by simp [h1], fun i hi => ?_, fun c hc => ?_⟩
      · by_cases hik : i < cs.length
        · rw [List.getElem_append_left hik]
          exact h2 i hik
        · have : i = k := by simp at hi; omega
          subst this
          have e : (cs ++ [y])[i]'hi = y := by
            rw [List.getElem_append_right (by omega)]
            simp [h1]
          rw [e]
          exact hy
      · rcases List.mem_append.1 hc with hc | hc
        · exact h3 c hc
        · simp at hc
          rw [hc]
          exact hyf
  obtain ⟨cs, h1, h2, h3⟩ := this len (Nat.le_refl _)
  refine ⟨some a, a.block, a.off, cap, cs, by rw [h1], fun h0 => ?_, h3, by rw [h1]; omega, by omega, hm, fun h => by cases h⟩
  obtain ⟨_, hat, _, hs⟩ := each 0 (by omega)
  refine ⟨?_, h2, hat.lt⟩
  obtain ⟨ab, ao, sp⟩ := a
  simp only at hs
  subst hs
  rfl
end

end Go.Proofs.YtmpnofbhbglfpaaGreatDoor
