/-
  The document's Put, where it takes the cell.
-/
import Derived.Test.YtijfmgpipnhkkaaSR5
import Derived.Deep.Cut
namespace Go.Proofs.Ytijfmgpipnhkkaa
open Go.RowKit Go.BigFrame Go.Sort
attribute [local go_sem] size_bstr toList_bstr ls_def

theorem PB.cells {w : World} {L : List (Cl × Nat)} {qc : Option Addr} {gc cc : Nat} {qh : Option Addr} {gh ch : Nat} {c : Cl} {W : World} (h : PB w L qc gc cc qh gh ch c W) : (W.cell? ⟨w.heap.size, 0, none⟩ = some (.slice qc L.length cc) ∧ W.cell? ⟨w.heap.size, 1, none⟩ = some (.slice qh L.length ch)) ∧ W.cell? ⟨w.heap.size + 1, 0, none⟩ = some (.string (bstr c.row)) ∧ W.cell? ⟨w.heap.size + 1, 1, none⟩ = some (.string (bstr c.col)) ∧ W.cell? ⟨w.heap.size + 1, 2, none⟩ = some (.int .u64 c.ver) ∧ W.cell? ⟨w.heap.size + 1, 3, none⟩ = some (.bool c.gone) ∧ W.cell? ⟨w.heap.size + 1, 4, none⟩ = some (.string (bstr c.val)) :=
  ⟨⟨(cells_block h.b0).1 0, (cells_block h.b0).1 1⟩, (cells_block h.b1).1 0, (cells_block h.b1).1 1, (cells_block h.b1).1 2, (cells_block h.b1).1 3, (cells_block h.b1).1 4⟩

/-- The list that is being made: its block O, the rows of its cells and heights behind it. -/
structure OS (w : World) (L : List (Cl × Nat)) (qc : Option Addr) (gc cc : Nat) (qh : Option Addr) (gh ch : Nat) (c : Cl) (O : Nat) (vc : Value) (xs : List Cl) (vh : Value) (ys : List Nat) (W : World) : Prop where
  pb : PB w L qc gc cc qh gh ch c W
  ob : W.heap[O]? = some (.cells #[vc, vh] 28 (0, 0))
  oc : W.ownsRow (O + 1) 34 5 vc xs.length (ccells xs)
  oh : W.ownsRow (O + 1) 3 1 vh ys.length (hCells ys)
  gt : w.heap.size + 2 < O
theorem OS.drew {w : World} {L : List (Cl × Nat)} {qc : Option Addr} {gc cc : Nat} {qh : Option Addr} {gh ch : Nat} {c : Cl} {O : Nat} {vc : Value} {xs : List Cl} {vh : Value} {ys : List Nat} {W : World} (h : OS w L qc gc cc qh gh ch c O vc xs vh ys W) : OS w L qc gc cc qh gh ch c O vc xs vh ys W.drew := ⟨h.pb.drew, h.ob, h.oc.drew, h.oh.drew, h.gt⟩
theorem OS.alloc {w : World} {L : List (Cl × Nat)} {qc : Option Addr} {gc cc : Nat} {qh : Option Addr} {gh ch : Nat} {c : Cl} {O : Nat} {vc : Value} {xs : List Cl} {vh : Value} {ys : List Nat} {W : World} (h : OS w L qc gc cc qh gh ch c O vc xs vh ys W) (o : Obj) : OS w L qc gc cc qh gh ch c O vc xs vh ys (W.alloc o) := ⟨h.pb.abd ((Below.refl _ _).alloc (Nat.le_refl _) _), (Below.heap_alloc _ _ _ (blk_lt h.ob)).trans h.ob, h.oc.alloc _, h.oh.alloc _, h.gt⟩
theorem slice_of {w : World} {B e sz n : Nat} {v : Value} {xs : List Value} (h : w.ownsRow B e sz v n xs) : ∃ q cap, v = .slice q n cap ∧ n ≤ cap := by
  rcases h.2 with ⟨e1, e0⟩ | ⟨g, cap, cur, e1, _, _, hnc, _⟩
  · exact ⟨none, 0, by rw [e1, e0], by omega⟩
  · exact ⟨_, _, e1, hnc⟩
theorem OS.ne {w : World} {L : List (Cl × Nat)} {qc : Option Addr} {gc cc : Nat} {qh : Option Addr} {gh ch : Nat} {c : Cl} {O : Nat} {vc : Value} {xs : List Cl} {vh : Value} {ys : List Nat} {W : World} (h : OS w L qc gc cc qh gh ch c O vc xs vh ys W) : ∀ i, vc.ownBlock = some i → vh.ownBlock = some i → False := fun i h1 h2 => by
  obtain ⟨_, _, cur, e1⟩ := own_blk_lt h.oc h1
  obtain ⟨_, _, cur2, e2⟩ := own_blk_lt h.oh h2
  rw [e1] at e2
  cases e2
theorem PB.grown {w : World} {L : List (Cl × Nat)} {qc : Option Addr} {gc cc : Nat} {qh : Option Addr} {gh ch : Nat} {c : Cl} {O : Nat} {W W' : World} {r : Option Nat} (h : PB w L qc gc cc qh gh ch c W) (hg : W.grownBy W' r) (hr : ∀ k, r = some k → O + 1 ≤ k) (hO : w.heap.size + 2 < O) : PB w L qc gc cc qh gh ch c W' := by
  have hk : ∀ k, k ≤ w.heap.size + 2 → k < W.heap.size → W'.heap[k]? = W.heap[k]? := fun k hk hl => hg.block k hl fun e => by have := hr k e.symm; omega
  refine ⟨(hk _ (by omega) (blk_lt h.b0)).trans h.b0, (hk _ (by omega) (blk_lt h.b1)).trans h.b1, (hk _ (by omega) (blk_lt h.b2)).trans h.b2, h.be.grown hg h.be.size fun k e => by have := hr k e; omega⟩
theorem PB.set {w : World} {L : List (Cl × Nat)} {qc : Option Addr} {gc cc : Nat} {qh : Option Addr} {gh ch : Nat} {c : Cl} {O o : Nat} {W : World} (h : PB w L qc gc cc qh gh ch c W) (hO : w.heap.size + 2 < O) (v : Value) : PB w L qc gc cc qh gh ch c (W.setCell ⟨O, o, none⟩ v) :=
  ⟨(heap_set_other v (by omega)).trans h.b0, (heap_set_other v (by omega)).trans h.b1, (heap_set_other v (by omega)).trans h.b2, h.be.setCell (p := ⟨O, o, none⟩) (by show _ ≤ O; omega) v⟩
theorem own_set {W : World} {O o e sz n : Nat} {v u : Value} {xs : List Value} (h : W.ownsRow (O + 1) e sz v n xs) : (W.setCell ⟨O, o, none⟩ u).ownsRow (O + 1) e sz v n xs := own_kept h fun i hi => heap_set_other u (by have := (own_blk_lt h hi).2.1; omega)
theorem OS.appc {w : World} {L : List (Cl × Nat)} {qc : Option Addr} {gc cc : Nat} {qh : Option Addr} {gh ch : Nat} {c : Cl} {O : Nat} {vc : Value} {xs : List Cl} {vh : Value} {ys : List Nat} {W W' : World} (h : OS w L qc gc cc qh gh ch c O vc xs vh ys W) {v : Value} {ns : List Cl} {m : Nat} (hm : ns.length = m) (hg : W.grownBy W' vc.ownBlock) (ho : W'.ownsRow (O + 1) 34 5 v (xs.length + m) (ccells xs ++ ccells ns)) :
    (W'.cell? ⟨O, 0, none⟩ = some vc ∧ W'.frozen? ⟨O, 0, none⟩ = false) ∧ OS w L qc gc cc qh gh ch c O v (xs ++ ns) vh ys (W'.setCell ⟨O, 0, none⟩ v) := by
  have hr : ∀ k, vc.ownBlock = some k → O + 1 ≤ k := fun k e => (own_blk_lt h.oc e).2.1
  have hO : W'.heap[O]? = some (.cells #[vc, vh] 28 (0, 0)) := (hg.block O (blk_lt h.ob) fun e => by have := hr O e.symm; omega).trans h.ob
  refine ⟨⟨(cells_block hO).1 0, (cells_block hO).2 0⟩, (h.pb.grown hg hr h.gt).set h.gt v, heap_set_same hO v, ?_, own_set (own_kept h.oh fun i hi => hg.block i (own_blk_lt h.oh hi).1 fun e => h.ne i e.symm hi), h.gt⟩
  rw [List.length_append, hm, ccells_append]
  exact own_set ho
theorem OS.apph {w : World} {L : List (Cl × Nat)} {qc : Option Addr} {gc cc : Nat} {qh : Option Addr} {gh ch : Nat} {c : Cl} {O : Nat} {vc : Value} {xs : List Cl} {vh : Value} {ys : List Nat} {W W' : World} (h : OS w L qc gc cc qh gh ch c O vc xs vh ys W) {v : Value} {ns : List Nat} {m : Nat} (hm : ns.length = m) (hg : W.grownBy W' vh.ownBlock) (ho : W'.ownsRow (O + 1) 3 1 v (ys.length + m) (hCells ys ++ hCells ns)) :
    (W'.cell? ⟨O, 1, none⟩ = some vh ∧ W'.frozen? ⟨O, 1, none⟩ = false) ∧ OS w L qc gc cc qh gh ch c O vc xs v (ys ++ ns) (W'.setCell ⟨O, 1, none⟩ v) := by
  have hr : ∀ k, vh.ownBlock = some k → O + 1 ≤ k := fun k e => (own_blk_lt h.oh e).2.1
  have hO : W'.heap[O]? = some (.cells #[vc, vh] 28 (0, 0)) := (hg.block O (blk_lt h.ob) fun e => by have := hr O e.symm; omega).trans h.ob
  refine ⟨⟨(cells_block hO).1 1, (cells_block hO).2 1⟩, (h.pb.grown hg hr h.gt).set h.gt v, heap_set_same hO v, own_set (own_kept h.oc fun i hi => hg.block i (own_blk_lt h.oc hi).1 fun e => h.ne i hi e.symm), ?_, h.gt⟩
  rw [List.length_append, hm, hCells_append]
  exact own_set ho

/-- What Put answers where it takes the cell. -/
structure PutD (w : World) (L' : List (Cl × Nat)) (e : Ending) (w' : World) : Prop where
  ans : ∃ qc gc cc qh gh ch, e = .returned (.tuple #[dV L' qc cc qh ch, .int .i64 0]) ∧ DA w' L' qc gc cc qh gh ch ∧ w.heap.size ≤ gc ∧ w.heap.size ≤ gh
  be : Below w.heap.size w w'
theorem own_hrow {w : World} {B e : Nat} {v : Value} {ys : List Nat} (h : w.ownsRow B e 1 v ys.length (hCells ys)) (hne : 0 < ys.length) : ∃ g cap, v = .slice (some ⟨g, 0, none⟩) ys.length cap ∧ B ≤ g ∧ g < w.heap.size ∧ ys.length ≤ cap ∧ HRow w g ys := by
  rcases h.2 with ⟨_, h0⟩ | ⟨g, cap, cur, rfl, hbg, hg, hnc, hcm, hcs, htake⟩
  · omega
  · refine ⟨g, cap, rfl, hbg, blk_lt hg, hnc, fun j hj => ?_⟩
    have := h.cells (g := g) rfl j (.int .i64 (ys[j] : Int)) (by simp [hCells, hj])
    rw [Addr.add_lit, Nat.zero_add] at this
    exact this
theorem OS.done {w : World} {L : List (Cl × Nat)} {qc : Option Addr} {gc cc : Nat} {qh : Option Addr} {gh ch : Nat} {c : Cl} {O : Nat} {vc : Value} {xs : List Cl} {vh : Value} {ys : List Nat} {W : World} (h : OS w L qc gc cc qh gh ch c O vc xs vh ys W) (L' : List (Cl × Nat)) (hx : xs = L'.map fun x => x.1) (hy : ys = L'.map fun x => x.2) (h0 : 0 < L'.length) : ∃ gc' cc' gh' ch', vc = .slice (some ⟨gc', 0, none⟩) L'.length cc' ∧ vh = .slice (some ⟨gh', 0, none⟩) L'.length ch' ∧ O < gc' ∧ O < gh' ∧ (∀ W' : World, W'.heap[gc']? = W.heap[gc']? → W'.heap[gh']? = W.heap[gh']? → W.heap.size ≤ W'.heap.size → DA W' L' (some ⟨gc', 0, none⟩) gc' cc' (some ⟨gh', 0, none⟩) gh' ch') := by
  have lx : xs.length = L'.length := by rw [hx, List.length_map]
  have ly : ys.length = L'.length := by rw [hy, List.length_map]
  obtain ⟨g1, c1, e1, b1, t1, n1, _, r1, _⟩ := own_crow h.oc (fun e => by rw [e] at lx; simp at lx; omega)
  obtain ⟨g2, c2, e2, b2, t2, n2, r2⟩ := own_hrow h.oh (by omega)
  rw [lx] at e1 n1
  rw [ly] at e2 n2
  rw [hx] at r1
  rw [hy] at r2
  exact ⟨g1, c1, g2, c2, e1, e2, by omega, by omega, fun W' k1 k2 ks => ⟨fun _ => ⟨rfl, r1.block k1, Nat.lt_of_lt_of_le t1 ks⟩, fun _ => ⟨rfl, r2.block k2, Nat.lt_of_lt_of_le t2 ks⟩, n1, n2, fun e => absurd e (by omega)⟩⟩
theorem Try.infoInt : (Try.prog.info? 3).map (fun i => (i.zero, i.size, i.bytes)) = some (some (.int .i64 0), 1, 8) := by kernel_rfl
theorem held_step {W W' : World} {g o : Nat} {v : Value} (hb : Below W.drew.heap.size W.drew W') (h : W.cell? ⟨g, o, none⟩ = some v) : W'.cell? ⟨g, o, none⟩ = some v := by
  have := (bcell hb).1 g o (block_lt_of_cell h)
  exact this.trans h
theorem stand {W W' : World} {g0 g1 g2 g3 g4 g5 g6 g7 g8 g9 g10 o0 o1 o2 o3 o4 o5 o6 o7 o8 o9 o10 : Nat} {v0 v1 v2 v3 v4 v5 v6 v7 v8 v9 v10 : Value} (hb : Below W.drew.heap.size W.drew W') (h0 : W.cell? ⟨g0, o0, none⟩ = some v0) (h1 : W.cell? ⟨g1, o1, none⟩ = some v1) (h2 : W.cell? ⟨g2, o2, none⟩ = some v2) (h3 : W.cell? ⟨g3, o3, none⟩ = some v3) (h4 : W.cell? ⟨g4, o4, none⟩ = some v4) (h5 : W.cell? ⟨g5, o5, none⟩ = some v5) (h6 : W.cell? ⟨g6, o6, none⟩ = some v6) (h7 : W.cell? ⟨g7, o7, none⟩ = some v7) (h8 : W.cell? ⟨g8, o8, none⟩ = some v8) (h9 : W.cell? ⟨g9, o9, none⟩ = some v9) (h10 : W.cell? ⟨g10, o10, none⟩ = some v10) :
    W'.cell? ⟨g0, o0, none⟩ = some v0 ∧ W'.cell? ⟨g1, o1, none⟩ = some v1 ∧ W'.cell? ⟨g2, o2, none⟩ = some v2 ∧ W'.cell? ⟨g3, o3, none⟩ = some v3 ∧ W'.cell? ⟨g4, o4, none⟩ = some v4 ∧ W'.cell? ⟨g5, o5, none⟩ = some v5 ∧ W'.cell? ⟨g6, o6, none⟩ = some v6 ∧ W'.cell? ⟨g7, o7, none⟩ = some v7 ∧ W'.cell? ⟨g8, o8, none⟩ = some v8 ∧ W'.cell? ⟨g9, o9, none⟩ = some v9 ∧ W'.cell? ⟨g10, o10, none⟩ = some v10 :=
  ⟨held_step hb h0, held_step hb h1, held_step hb h2, held_step hb h3, held_step hb h4, held_step hb h5, held_step hb h6, held_step hb h7, held_step hb h8, held_step hb h9, held_step hb h10⟩

set_option maxHeartbeats 8000000 in
set_option maxRecDepth 100000 in
theorem RPut_ok (L : List (Cl × Nat)) (qc : Option Addr) (gc cc : Nat) (qh : Option Addr) (gh ch : Nat) (c : Cl) (h : Nat) (w : World) (hD : DA w L qc gc cc qh gh ch) (hn : L.length ≤ 1000000) (hm : mayCl c = true) (h1 : 1 ≤ h) (h12 : h ≤ 12) :
    Calls Try.prog 5 #[dV L qc cc qh ch, clV c, .int .i64 (h : Int)] w fun e w' => PutD w (putH c h L) e w' := by
  have hP := PB.start w L qc gc cc qh gh ch c
  obtain ⟨W, hW⟩ : ∃ W, W = ((w.alloc (.cells #[.slice qc L.length cc, .slice qh L.length ch] 28)).alloc (.cells #[.string (bstr c.row), .string (bstr c.col), .int .u64 c.ver, .bool c.gone, .string (bstr c.val)] 34)).alloc (.cells #[.slice none 0 0, .slice none 0 0] 28) := ⟨_, rfl⟩
  rw [← hW] at hP
  have hce := RCell_cl c W
  rw [if_pos hm] at hce
  obtain ⟨_, d0, d1, d2, d3, d4⟩ := hP.cells
  simp only [dV, clV] at hce ⊢
  have g1 : ¬ ((h : Int) < 1) := by omega
  have g2 : ¬ ((12 : Int) < (h : Int)) := by omega
  go_enter Try.func5, Try.ntmps5
  go_wp2_with fail
  rw [← hW]
  refine hce.mono ?_
  rintro e w1 ⟨rfl, hb1⟩
  have hP1 := hP.abd hb1
  clear hce hW hP d0 d1 d2 d3 d4 hb1
  go_upto_block 0 with fail
  go_cut [8] from 22 (fun s8 wx => ∃ i : Nat, s8 = .int .i64 (i : Int) ∧ i ≤ L.length ∧ (∀ j (hj : j < L.length), j < i → ccl L[j].1 c < 0) ∧ (∀ hi : i < L.length, ¬ ccl L[i].1 c < 0) ∧ PB w L qc gc cc qh gh ch c wx)
  case first =>
    go_wp2_with fail
    go_loopw [8] (fun s8 wr => ∃ i : Nat, s8 = .int .i64 (i : Int) ∧ i ≤ L.length ∧ (∀ j (hj : j < L.length), j < i → ccl L[j].1 c < 0) ∧ PB w L qc gc cc qh gh ch c wr) (fun s8 _ => L.length - (intOf s8).toNat)
    case atStart => exact ⟨0, rfl, Nat.zero_le _, fun j _ hj => absurd hj (Nat.not_lt_zero j), hP1⟩
    case round =>
      clear hP1
      obtain ⟨i, rfl, hil, hlo, hP⟩ := hrel
      obtain ⟨⟨x0, x1⟩, d0, d1, d2, d3, d4⟩ := hP.cells
      by_cases hlt : i < L.length
      · obtain ⟨rfl, hR, hg⟩ := hD.c (by omega)
        have c1 : (i : Int) < (L.length : Int) := by omega
        have hR1 := hR.step hP.be hg
        obtain ⟨e0, e1, e2, e3, e4⟩ := hR1 i (by rw [List.length_map]; exact hlt)
        simp only [Nat.zero_add, List.getElem_map] at e0 e1 e2 e3 e4
        have HLO : Hid _ := hlo
        obtain ⟨a, ha⟩ : ∃ a, a = L[i].1 := ⟨_, rfl⟩
        rw [← ha] at e0 e1 e2 e3 e4
        have HA : Hid _ := ha
        have hcm := fun W => RCmp_cl a c W
        simp only [clV] at hcm
        clear hR hR1 hlo ha
        go_wp2_with fail
        go_region_held3 (fun w' => w'.cell? ⟨w.heap.size, 0, none⟩ = some (.slice (some ⟨gc, 0, none⟩) L.length cc) ∧ w'.cell? ⟨gc, i * 5, none⟩ = some (.string (bstr a.row)) ∧ w'.cell? ⟨gc, i * 5 + 1, none⟩ = some (.string (bstr a.col)) ∧ w'.cell? ⟨gc, i * 5 + 2, none⟩ = some (.int .u64 a.ver) ∧ w'.cell? ⟨gc, i * 5 + 3, none⟩ = some (.bool a.gone) ∧ w'.cell? ⟨gc, i * 5 + 4, none⟩ = some (.string (bstr a.val)) ∧ w'.cell? ⟨w.heap.size + 1, 0, none⟩ = some (.string (bstr c.row)) ∧ w'.cell? ⟨w.heap.size + 1, 1, none⟩ = some (.string (bstr c.col)) ∧ w'.cell? ⟨w.heap.size + 1, 2, none⟩ = some (.int .u64 c.ver) ∧ w'.cell? ⟨w.heap.size + 1, 3, none⟩ = some (.bool c.gone) ∧ w'.cell? ⟨w.heap.size + 1, 4, none⟩ = some (.string (bstr c.val))) (first | with_reducible exact ⟨x0, e0, e1, e2, e3, e4, d0, d1, d2, d3, d4⟩ | with_reducible exact ST | go_keep)
        ((go_at_call 17; refine (hcm _).mono ?_; rintro e wf ⟨rfl, hbf⟩; have hPf := hP.drew.abd hbf; have ST := stand hbf x0 e0 e1 e2 e3 e4 d0 d1 d2 d3 d4))
        clear ST hcm x0 x1 e0 e1 e2 e3 e4 d0 d1 d2 d3 d4 hbf
        by_cases hs : ccl a c < 0
        · go_wp2
          go_roundw
          case rel =>
            refine ⟨i + 1, by go_num, by omega, fun j hj hji => ?_, hPf⟩
            by_cases e : j < i
            · exact HLO.out j hj e
            · obtain rfl : j = i := by omega
              rw [← HA.out]
              exact hs
          case measure => simp [intOf]; omega
        · go_wp2
          go_meet
          case rel => exact ⟨i, rfl, hil, HLO.out, fun hi => by rw [← HA.out]; exact hs, hPf⟩
      · have c1 : ¬ (i : Int) < (L.length : Int) := by omega
        have HLO : Hid _ := hlo
        clear hlo
        go_wp2_with fail
        go_quiet (fail)
        have hPq : PB w L qc gc cc qh gh ch c (wr.drewN nq) := ⟨hP.b0, hP.b1, hP.b2, ⟨hP.be.os, hP.be.tape, hP.be.output, hP.be.size, hP.be.block⟩⟩
        clear x0 x1 d0 d1 d2 d3 d4
        go_wp2
        go_meet
        case rel => exact ⟨i, rfl, hil, HLO.out, fun hi => absurd hi hlt, hPq⟩
  case rest =>
    obtain ⟨i, rfl, hil, hlo, hhi, hP⟩ := hcut
    have HLO : Hid _ := hlo
    have HHI : Hid _ := hhi
    clear hP1 hlo hhi
    go_upto_region 7 with fail
    go_cut [55] from 40 (fun s55 wx => ∃ b : Bool, s55 = .bool b ∧ (b = true → ∃ hi : i < L.length, ccl L[i].1 c = 0) ∧ (b = false → ∀ hi : i < L.length, ¬ ccl L[i].1 c = 0) ∧ PB w L qc gc cc qh gh ch c wx)
    case first =>
      obtain ⟨⟨x0, x1⟩, d0, d1, d2, d3, d4⟩ := hP.cells
      by_cases hlt : i < L.length
      · obtain ⟨rfl, hR, hg⟩ := hD.c (by omega)
        have c1 : (i : Int) < (L.length : Int) := by omega
        have hR1 := hR.step hP.be hg
        obtain ⟨e0, e1, e2, e3, e4⟩ := hR1 i (by rw [List.length_map]; exact hlt)
        simp only [Nat.zero_add, List.getElem_map] at e0 e1 e2 e3 e4
        obtain ⟨a, ha⟩ : ∃ a, a = L[i].1 := ⟨_, rfl⟩
        rw [← ha] at e0 e1 e2 e3 e4
        have HA : Hid _ := ha
        have hcm := fun W => RCmp_cl a c W
        simp only [clV] at hcm
        clear hR hR1 ha
        go_region_held3 (fun w' => w'.cell? ⟨w.heap.size, 0, none⟩ = some (.slice (some ⟨gc, 0, none⟩) L.length cc) ∧ w'.cell? ⟨gc, i * 5, none⟩ = some (.string (bstr a.row)) ∧ w'.cell? ⟨gc, i * 5 + 1, none⟩ = some (.string (bstr a.col)) ∧ w'.cell? ⟨gc, i * 5 + 2, none⟩ = some (.int .u64 a.ver) ∧ w'.cell? ⟨gc, i * 5 + 3, none⟩ = some (.bool a.gone) ∧ w'.cell? ⟨gc, i * 5 + 4, none⟩ = some (.string (bstr a.val)) ∧ w'.cell? ⟨w.heap.size + 1, 0, none⟩ = some (.string (bstr c.row)) ∧ w'.cell? ⟨w.heap.size + 1, 1, none⟩ = some (.string (bstr c.col)) ∧ w'.cell? ⟨w.heap.size + 1, 2, none⟩ = some (.int .u64 c.ver) ∧ w'.cell? ⟨w.heap.size + 1, 3, none⟩ = some (.bool c.gone) ∧ w'.cell? ⟨w.heap.size + 1, 4, none⟩ = some (.string (bstr c.val))) (first | with_reducible exact ⟨x0, e0, e1, e2, e3, e4, d0, d1, d2, d3, d4⟩ | with_reducible exact ST | go_keep)
        ((go_at_call 17; refine (hcm _).mono ?_; rintro e wf ⟨rfl, hbf⟩; have hPf := hP.drew.abd hbf; have ST := stand hbf x0 e0 e1 e2 e3 e4 d0 d1 d2 d3 d4))
        clear ST hcm x0 x1 e0 e1 e2 e3 e4 d0 d1 d2 d3 d4 hbf
        by_cases hs : ccl a c = 0
        · go_wp2
          go_meet
          case rel => exact ⟨true, by simp [hs], fun _ => ⟨hlt, (by rw [← HA.out]; exact hs)⟩, fun h => (by cases h), hPf⟩
        · have hs2 : (ccl a c == 0) = false := by simpa using hs
          go_wp2
          go_meet
          case rel => exact ⟨false, by simp [hs], fun h => (by cases h), fun _ hi => (by rw [← HA.out]; exact hs), hPf⟩
      · have c1 : ¬ (i : Int) < (L.length : Int) := by omega
        go_quiet (fail)
        have hPq : PB w L qc gc cc qh gh ch c (wc.drewN nq) := ⟨hP.b0, hP.b1, hP.b2, ⟨hP.be.os, hP.be.tape, hP.be.output, hP.be.size, hP.be.block⟩⟩
        clear x0 x1 d0 d1 d2 d3 d4
        go_wp2
        go_meet
        case rel => exact ⟨false, rfl, fun h => (by cases h), fun _ hi => absurd hi hlt, hPq⟩
    case rest =>
      obtain ⟨b, rfl, hby, hbn, hP⟩ := hcut
      have hB : ∃ hh bh : Nat, (b = true → i < L.length) ∧ (b = true → ∀ hi : i < L.length, hh = L[i].2 ∧ bh = i + 1) ∧ (b = false → hh = h ∧ bh = i) ∧ bh ≤ L.length ∧ putH c h L = L.take i ++ (c, hh) :: L.drop bh := by
        have hA : ∀ x ∈ L.take i, ccl x.1 c < 0 := fun x hx => by
          obtain ⟨j, hj, rfl⟩ := List.getElem_of_mem hx
          rw [List.length_take] at hj
          rw [List.getElem_take]
          exact HLO.out j (by omega) (by omega)
        have hsp : putH c h L = L.take i ++ putH c h (L.drop i) := by
          conv => lhs; rw [← List.take_append_drop i L]
          exact putH_skip hA
        cases b with
        | true =>
          obtain ⟨hi, h0⟩ := hby rfl
          refine ⟨L[i].2, i + 1, fun _ => hi, fun _ _ => ⟨rfl, rfl⟩, fun h => (by cases h), by omega, ?_⟩
          rw [hsp, List.drop_eq_getElem_cons hi, putH, if_neg (HHI.out hi), if_pos h0]
        | false =>
          refine ⟨h, i, fun h => (by cases h), fun h => (by cases h), fun _ => ⟨rfl, rfl⟩, hil, ?_⟩
          rw [hsp]
          by_cases hi : i < L.length
          · rw [List.drop_eq_getElem_cons hi, putH, if_neg (HHI.out hi), if_neg (hbn rfl hi)]
          · rw [List.drop_of_length_le (by omega)]
            rfl
      obtain ⟨hh, bh, hbl, hbt, hbf, hbL, hput⟩ := hB
      have HPUT : Hid _ := hput
      clear hby hbn hput HLO HHI
      go_upto_if 55 with fail
      go_cut [2, 9] from 55 (fun s2 s9 wx => s2 = .int .i64 (hh : Int) ∧ s9 = .int .i64 (bh : Int) ∧ PB w L qc gc cc qh gh ch c wx)
      case first =>
        obtain ⟨⟨x0, x1⟩, d0, d1, d2, d3, d4⟩ := hP.cells
        cases b with
        | true =>
          have hi := hbl rfl
          obtain ⟨e1, e2⟩ := hbt rfl hi
          obtain ⟨rfl, hR, hg⟩ := hD.h (by omega)
          have ci : wc.cell? ⟨gh, i, none⟩ = some (.int .i64 (hh : Int)) := by
            have := hR i (by rw [List.length_map]; exact hi)
            rw [List.getElem_map] at this
            rw [(bcell hP.be).1 gh i hg, this, e1]
          have c1 : (i : Int) < (L.length : Int) := by omega
          have HE2 : Hid _ := e2
          clear hbl hbt hbf hR e1 e2
          go_wp2
          go_meet
          case rel => exact ⟨rfl, by rw [HE2.out]; go_num, hP⟩
        | false =>
          obtain ⟨e1, e2⟩ := hbf rfl
          subst e1 e2
          clear hbl hbt hbf
          go_wp2
          go_meet
          case rel => exact ⟨rfl, rfl, hP⟩
      case rest =>
        obtain ⟨rfl, rfl, hP⟩ := hcut
        clear hbl hbt hbf
        obtain ⟨O, hO⟩ : ∃ O, O = wc.heap.size := ⟨_, rfl⟩
        obtain ⟨W1, hW1⟩ : ∃ W1, W1 = wc.alloc (.cells #[.slice none 0 0, .slice none 0 0] 28) := ⟨_, rfl⟩
        have hOS : OS w L qc gc cc qh gh ch c O (.slice none 0 0) [] (.slice none 0 0) [] W1 := by
          rw [hW1]
          refine ⟨hP.abd ((Below.refl _ _).alloc (Nat.le_refl _) _), by rw [hO]; exact heap_alloc_new _ _, ⟨rfl, .inl ⟨rfl, rfl⟩⟩, ⟨rfl, .inl ⟨rfl, rfl⟩⟩, by rw [hO]; exact blk_lt hP.b2⟩
        obtain ⟨i0, hi0, hz0, hz1, hz2⟩ := info_parts Try.infoCell
        obtain ⟨i1, hi1, hy0, hy1, hy2⟩ := info_parts Try.infoInt
        have sc : ∀ W, (Go.sizeOf (Try.prog.elem 25)).run Try.prog W = .ok 5 W := fun W => by
          have hel : Try.prog.elem 25 = 34 := by simp [Program.elem, Try.underlying25]
          rw [hel]; simp [Go.sizeOf, typeInfo, hi0, hz1]
        have sh : ∀ W, (Go.sizeOf (Try.prog.elem 26)).run Try.prog W = .ok 1 W := fun W => by
          have hel : Try.prog.elem 26 = 3 := by simp [Program.elem, Try.underlying26]
          rw [hel]; simp [Go.sizeOf, typeInfo, hi1, hy1]
        have SC : Hid _ := sc
        have SH : Hid _ := sh
        have lc := hD.lc
        have lh := hD.lh
        have hcs : ∃ cs, cs = L.map fun x => x.1 := ⟨_, rfl⟩
        have hhs : ∃ hs, hs = L.map fun x => x.2 := ⟨_, rfl⟩
        obtain ⟨cs, hcs⟩ := hcs
        obtain ⟨hs, hhs⟩ := hhs
        have HCS : Hid _ := hcs
        have HHS : Hid _ := hhs
        have m1 : Hid ((cs.take i).length = i) := by show _ = _; rw [hcs, List.length_take, List.length_map]; omega
        have m4 : Hid ((hs.take i).length = i) := by show _ = _; rw [hhs, List.length_take, List.length_map]; omega
        have s1 : ∀ W, Below w.heap.size w W → Src W qc i cc (ccells (cs.take i)) := fun W hb => by have := ((hD.below hb).src_c i).1; rw [Nat.min_eq_left hil, ← hcs] at this; exact this
        have s4 : ∀ W, Below w.heap.size w W → Src W qh i ch (hCells (hs.take i)) := fun W hb => by have := ((hD.below hb).src_h i).1; rw [Nat.min_eq_left hil, ← hhs] at this; exact this
        have t3 : ∃ qq m cq, m ≤ 1000000 ∧ Hid ((cs.drop bh).length = m) ∧ Hid (∀ W, (Instr.slice 25 (.slice qc L.length cc) (some (.int .i64 (bh : Int))) none none).run Try.prog W = .ok (.slice qq m cq) W) ∧ Hid (∀ W, Below w.heap.size w W → Src W qq m cq (ccells (cs.drop bh))) := by
          refine ⟨_, _, _, ?_, ?_, fun W => tail_run (P := Try.prog) (t := 25) (q := qc) (len := L.length) (cap := cc) (n := bh) (s := 5) Try.underlying25 SC.out (by omega) W, fun W hb => ?_⟩
          · omega
          · show _ = _
            rw [hcs, List.length_drop, List.length_map]
          · have := ((hD.below hb).src_c bh).2 hbL
            rw [← hcs] at this
            exact this
        obtain ⟨qt3, mt3, ct3, bt3, mlt3, rrt3, sst3⟩ := t3
        have t6 : ∃ qq m cq, m ≤ 1000000 ∧ Hid ((hs.drop bh).length = m) ∧ Hid (∀ W, (Instr.slice 26 (.slice qh L.length ch) (some (.int .i64 (bh : Int))) none none).run Try.prog W = .ok (.slice qq m cq) W) ∧ Hid (∀ W, Below w.heap.size w W → Src W qq m cq (hCells (hs.drop bh))) := by
          refine ⟨_, _, _, ?_, ?_, fun W => tail_run (P := Try.prog) (t := 26) (q := qh) (len := L.length) (cap := ch) (n := bh) (s := 1) Try.underlying26 SH.out (by omega) W, fun W hb => ?_⟩
          · omega
          · show _ = _
            rw [hhs, List.length_drop, List.length_map]
          · have := ((hD.below hb).src_h bh).2 hbL
            rw [← hhs] at this
            exact this
        obtain ⟨qt6, mt6, ct6, bt6, mlt6, rrt6, sst6⟩ := t6
        have S1 : Hid _ := s1
        have S4 : Hid _ := s4
        have HD : Hid _ := hD
        have hE1 : Hid (ccells [c] = encC c) := by show _ = _; simp [ccells]
        clear sc sh hcs hhs s1 s4 hD
        go_upto_region 11 with fail
        rw [← hW1, ← hO]
        clear hW1 hO hP
        go_cut [10] from 63 (fun s10 wx => s10 = .pointer (some ⟨O, 0, none⟩) ∧ ∃ v, OS w L qc gc cc qh gh ch c O v (cs.take i) (.slice none 0 0) [] wx)
        case first =>
          obtain ⟨⟨x0, x1⟩, _, _, _, _, _⟩ := hOS.pb.cells
          have o0 : W1.cell? ⟨O, 0, none⟩ = some (.slice none 0 0) := (cells_block hOS.ob).1 0
          have hnl : (ccells (cs.take i)).length = i * 5 := by rw [ccells_length, m1.out]
          have hO1 : O < W1.heap.size := blk_lt hOS.ob
          have r1 := fun W => head_run (P := Try.prog) (t := 25) (q := qc) (len := L.length) (cap := cc) (n := i) (s := 5) Try.underlying25 SC.out (by omega) W
          go_region_law (refine step_app_src (by rfl) _ _ 25 (by rfl) (O + 1) 34 i0 (.agg #[.string ⟨#[]⟩, .string ⟨#[]⟩, .int .u64 0, .bool false, .string ⟨#[]⟩]) 5 64 Try.underlying25 hi0 hz0 hz1 hz2 rfl (by decide) (.slice none 0 0) (0) _ (by rfl) hOS.oc.drew qc i cc (ccells (cs.take i)) (by rfl) hnl (S1.out _ hOS.drew.pb.be) (ccells_one _) (by unfold maxLen; omega) (by omega) (by simp; omega) ?_; intro v4 w4 hown4 hgr4; obtain ⟨q4, cap4, rfl, _⟩ := slice_of hown4; obtain ⟨⟨s0, f0⟩, hOS2⟩ := hOS.drew.appc m1.out hgr4 hown4)
          all_goals
            simp only [Nat.zero_add, List.nil_append] at hOS2
            clear x0 x1 o0 s0 f0 hown4 hgr4
            go_wp2
            go_meet
            case rel => exact ⟨rfl, _, hOS2⟩
        case rest =>
          clear hOS
          obtain ⟨rfl, v1, hOS⟩ := hcut
          clear S1 W1
          obtain ⟨xs1, hx1⟩ : ∃ xs1, xs1 = cs.take i := ⟨_, rfl⟩
          rw [← hx1] at hOS
          have l1 : xs1.length ≤ 1000000 := by rw [hx1, m1.out]; omega
          have X1 : Hid _ := hx1
          clear hx1
          go_upto_region 12 with fail
          go_cut [10] from 63 (fun s10 wx => s10 = .pointer (some ⟨O, 0, none⟩) ∧ ∃ v, OS w L qc gc cc qh gh ch c O v (xs1 ++ [c]) (.slice none 0 0) [] wx)
          case first =>
            obtain ⟨⟨x0, x1⟩, d0, d1, d2, d3, d4⟩ := hOS.pb.cells
            obtain ⟨q1, cap1, rfl, _⟩ := slice_of hOS.oc
            have o0 : wc.cell? ⟨O, 0, none⟩ = some (.slice q1 xs1.length cap1) := (cells_block hOS.ob).1 0
            have hO1 : O < wc.heap.size := blk_lt hOS.ob
            go_wp2_with (at_builtin; refine wpList_append_own _ rfl _ _ 25 rfl (O + 1) 34 i0 (.agg #[.string ⟨#[]⟩, .string ⟨#[]⟩, .int .u64 0, .bool false, .string ⟨#[]⟩]) 5 64 Try.underlying25 hi0 hz0 hz1 hz2 rfl (by decide) _ _ _ rfl (hOS.oc.alloc _) ⟨wc.heap.size, 0, none⟩ 1 1 (encC c) rfl rfl (cell_news wc c 34) (encC_one _) ?c3 ?c4 ?c5 ?_)
            case c3 => unfold maxLen; omega
            case c4 => omega
            case c5 => simp; omega
            intro v4 w4 hown4 hgr4 _
            obtain ⟨q4, cap4, rfl, _⟩ := slice_of hown4
            obtain ⟨⟨s0, f0⟩, hOS2⟩ := (hOS.alloc _).appc (ns := [c]) rfl hgr4 (by rw [hE1.out]; exact hown4)
            clear x0 x1 d0 d1 d2 d3 d4 o0 hown4 hgr4 hOS hO1
            go_wp2
            go_meet
            case rel => exact ⟨rfl, _, hOS2⟩
          case rest =>
            clear hOS
            obtain ⟨rfl, v2, hOS⟩ := hcut
            obtain ⟨xs2, hx2⟩ : ∃ xs2, xs2 = xs1 ++ [c] := ⟨_, rfl⟩
            rw [← hx2] at hOS
            have l2 : xs2.length ≤ 1000001 := by rw [hx2, List.length_append, List.length_singleton]; omega
            have X2 : Hid _ := hx2
            clear hx2
            obtain ⟨q1, cap1, rfl, _⟩ := slice_of hOS.oc
            go_upto_region 13 with fail
            go_cut [10] from 63 (fun s10 wx => s10 = .pointer (some ⟨O, 0, none⟩) ∧ ∃ v, OS w L qc gc cc qh gh ch c O v (xs2 ++ cs.drop bh) (.slice none 0 0) [] wx)
            case first =>
              obtain ⟨⟨x0, x1⟩, _, _, _, _, _⟩ := hOS.pb.cells
              have o0 : wc.cell? ⟨O, 0, none⟩ = some (.slice q1 xs2.length cap1) := (cells_block hOS.ob).1 0
              have hnl : (ccells (cs.drop bh)).length = mt3 * 5 := by rw [ccells_length, mlt3.out]
              have hO1 : O < wc.heap.size := blk_lt hOS.ob
              have r1 := rrt3.out
              go_region_law (refine step_app_src (by rfl) _ _ 25 (by rfl) (O + 1) 34 i0 (.agg #[.string ⟨#[]⟩, .string ⟨#[]⟩, .int .u64 0, .bool false, .string ⟨#[]⟩]) 5 64 Try.underlying25 hi0 hz0 hz1 hz2 rfl (by decide) (.slice q1 xs2.length cap1) (xs2.length) _ (by rfl) hOS.oc.drew qt3 mt3 ct3 (ccells (cs.drop bh)) (by rfl) hnl (sst3.out _ hOS.drew.pb.be) (ccells_one _) (by unfold maxLen; omega) (by omega) (by simp; omega) ?_; intro v4 w4 hown4 hgr4; obtain ⟨q4, cap4, rfl, _⟩ := slice_of hown4; obtain ⟨⟨s0, f0⟩, hOS2⟩ := hOS.drew.appc mlt3.out hgr4 hown4)
              all_goals
                clear x0 x1 o0 s0 f0 hown4 hgr4
                go_wp2
                go_meet
                case rel => exact ⟨rfl, _, hOS2⟩
            case rest =>
              clear hOS
              obtain ⟨rfl, v3, hOS⟩ := hcut
              obtain ⟨xs3, hx3⟩ : ∃ xs3, xs3 = xs2 ++ cs.drop bh := ⟨_, rfl⟩
              rw [← hx3] at hOS
              have X3 : Hid _ := hx3
              clear hx3
              go_upto_region 14 with fail
              go_cut [10] from 63 (fun s10 wx => s10 = .pointer (some ⟨O, 0, none⟩) ∧ ∃ v, OS w L qc gc cc qh gh ch c O v3 xs3 v (hs.take i) wx)
              case first =>
                obtain ⟨⟨x0, x1⟩, _, _, _, _, _⟩ := hOS.pb.cells
                have o0 : wc.cell? ⟨O, 1, none⟩ = some (.slice none 0 0) := (cells_block hOS.ob).1 1
                have hnl : (hCells (hs.take i)).length = i * 1 := by rw [hCells_length, m4.out, Nat.mul_one]
                have hO1 : O < wc.heap.size := blk_lt hOS.ob
                have r1 := fun W => head_run (P := Try.prog) (t := 26) (q := qh) (len := L.length) (cap := ch) (n := i) (s := 1) Try.underlying26 SH.out (by omega) W
                go_region_law (refine step_app_src (by rfl) _ _ 26 (by rfl) (O + 1) 3 i1 (.int .i64 0) 1 8 Try.underlying26 hi1 hy0 hy1 hy2 rfl (by decide) (.slice none 0 0) (0) _ (by rfl) hOS.oh.drew qh i ch (hCells (hs.take i)) (by rfl) hnl (S4.out _ hOS.drew.pb.be) (hCells_one _) (by unfold maxLen; omega) (by omega) (by simp; omega) ?_; intro v4 w4 hown4 hgr4; obtain ⟨q4, cap4, rfl, _⟩ := slice_of hown4; obtain ⟨⟨s0, f0⟩, hOS2⟩ := hOS.drew.apph m4.out hgr4 hown4)
                all_goals
                  simp only [Nat.zero_add, List.nil_append] at hOS2
                  clear x0 x1 o0 s0 f0 hown4 hgr4
                  go_wp2
                  go_meet
                  case rel => exact ⟨rfl, _, hOS2⟩
              case rest =>
                clear hOS
                obtain ⟨rfl, v4, hOS⟩ := hcut
                obtain ⟨ys1, hy1⟩ : ∃ ys1, ys1 = hs.take i := ⟨_, rfl⟩
                rw [← hy1] at hOS
                have k1 : ys1.length ≤ 1000000 := by rw [hy1, m4.out]; omega
                have Y1 : Hid _ := hy1
                clear hy1
                go_upto_region 15 with fail
                go_cut [10] from 63 (fun s10 wx => s10 = .pointer (some ⟨O, 0, none⟩) ∧ ∃ v, OS w L qc gc cc qh gh ch c O v3 xs3 v (ys1 ++ [hh]) wx)
                case first =>
                  obtain ⟨⟨x0, x1⟩, _, _, _, _, _⟩ := hOS.pb.cells
                  obtain ⟨q1, cap1, rfl, _⟩ := slice_of hOS.oh
                  have o0 : wc.cell? ⟨O, 1, none⟩ = some (.slice q1 ys1.length cap1) := (cells_block hOS.ob).1 1
                  have hO1 : O < wc.heap.size := blk_lt hOS.ob
                  have hnews : ∀ j u, (hCells [hh])[j]? = some u → (wc.alloc (.cells #[.int .i64 (hh : Int)] 3)).cell? ((⟨wc.heap.size, 0, none⟩ : Addr).add j) = some u := by
                    intro j u hj
                    rw [Addr.add_lit]
                    match j, hj with
                    | 0, hj =>
                      cases hj
                      exact (cells_block (heap_alloc_new wc _)).1 0
                  have HN : Hid _ := hnews
                  clear hnews
                  go_wp2_with (at_builtin; refine wpList_append_own _ rfl _ _ 26 rfl (O + 1) 3 i1 (.int .i64 0) 1 8 Try.underlying26 hi1 hy0 hy1 hy2 rfl (by decide) _ _ _ rfl (hOS.oh.alloc _) ⟨wc.heap.size, 0, none⟩ 1 1 (hCells [hh]) rfl rfl HN.out (hCells_one _) ?c3 ?c4 ?c5 ?_)
                  case c3 => unfold maxLen; omega
                  case c4 => omega
                  case c5 => simp; omega
                  intro v5 w4 hown4 hgr4 _
                  obtain ⟨q4, cap4, rfl, _⟩ := slice_of hown4
                  obtain ⟨⟨s0, f0⟩, hOS2⟩ := (hOS.alloc _).apph (ns := [hh]) rfl hgr4 hown4
                  clear x0 x1 o0 hown4 hgr4 hOS hO1 HN
                  go_wp2
                  go_meet
                  case rel => exact ⟨rfl, _, hOS2⟩
                case rest =>
                  clear hOS
                  obtain ⟨rfl, v5, hOS⟩ := hcut
                  obtain ⟨ys2, hx2⟩ : ∃ ys2, ys2 = ys1 ++ [hh] := ⟨_, rfl⟩
                  rw [← hx2] at hOS
                  have k2 : ys2.length ≤ 1000001 := by rw [hx2, List.length_append, List.length_singleton]; omega
                  have Y2 : Hid _ := hx2
                  clear hx2
                  obtain ⟨q1, cap1, rfl, _⟩ := slice_of hOS.oh
                  go_upto_region 16 with fail
                  go_cut [10] from 63 (fun s10 wx => s10 = .pointer (some ⟨O, 0, none⟩) ∧ ∃ v, OS w L qc gc cc qh gh ch c O v3 xs3 v (ys2 ++ hs.drop bh) wx)
                  case first =>
                    obtain ⟨⟨x0, x1⟩, _, _, _, _, _⟩ := hOS.pb.cells
                    have o0 : wc.cell? ⟨O, 1, none⟩ = some (.slice q1 ys2.length cap1) := (cells_block hOS.ob).1 1
                    have hnl : (hCells (hs.drop bh)).length = mt6 * 1 := by rw [hCells_length, mlt6.out, Nat.mul_one]
                    have hO1 : O < wc.heap.size := blk_lt hOS.ob
                    have r1 := rrt6.out
                    go_region_law (refine step_app_src (by rfl) _ _ 26 (by rfl) (O + 1) 3 i1 (.int .i64 0) 1 8 Try.underlying26 hi1 hy0 hy1 hy2 rfl (by decide) (.slice q1 ys2.length cap1) (ys2.length) _ (by rfl) hOS.oh.drew qt6 mt6 ct6 (hCells (hs.drop bh)) (by rfl) hnl (sst6.out _ hOS.drew.pb.be) (hCells_one _) (by unfold maxLen; omega) (by omega) (by simp; omega) ?_; intro v4 w4 hown4 hgr4; obtain ⟨q4, cap4, rfl, _⟩ := slice_of hown4; obtain ⟨⟨s0, f0⟩, hOS2⟩ := hOS.drew.apph mlt6.out hgr4 hown4)
                    all_goals
                      clear x0 x1 o0 s0 f0 hown4 hgr4
                      go_wp2
                      go_meet
                      case rel => exact ⟨rfl, _, hOS2⟩
                  case rest =>
                    clear hOS
                    obtain ⟨rfl, v6, hOS⟩ := hcut
                    have hX : Hid (xs3 = (putH c h L).map fun x => x.1) := by
                      show _ = _
                      rw [X3.out, X2.out, X1.out, HPUT.out, HCS.out, List.map_append, List.map_cons, List.map_take, List.map_drop, List.append_assoc]
                      rfl
                    have hY : Hid (ys2 ++ hs.drop bh = (putH c h L).map fun x => x.2) := by
                      show _ = _
                      rw [Y2.out, Y1.out, HPUT.out, HHS.out, List.map_append, List.map_cons, List.map_take, List.map_drop, List.append_assoc]
                      rfl
                    have h0 : 0 < (putH c h L).length := by rw [HPUT.out]; simp; omega
                    obtain ⟨gc', cc', gh', ch', rfl, rfl, hgc, hgh, hDA⟩ := hOS.done (putH c h L) hX.out hY.out h0
                    have o0 : wc.cell? ⟨O, 0, none⟩ = some (.slice (some ⟨gc', 0, none⟩) (putH c h L).length cc') := (cells_block hOS.ob).1 0
                    have o1 : wc.cell? ⟨O, 1, none⟩ = some (.slice (some ⟨gh', 0, none⟩) (putH c h L).length ch') := (cells_block hOS.ob).1 1
                    have y0 : wc.cell? ⟨w.heap.size + 1 + 1, 0, none⟩ = some (.slice none 0 0) := (cells_block hOS.pb.b2).1 0
                    have y1 : wc.cell? ⟨w.heap.size + 1 + 1, 1, none⟩ = some (.slice none 0 0) := (cells_block hOS.pb.b2).1 1
                    have f0 : wc.frozen? ⟨w.heap.size + 1 + 1, 0, none⟩ = false := (cells_block hOS.pb.b2).2 0
                    have f1 : wc.frozen? ⟨w.heap.size + 1 + 1, 1, none⟩ = false := (cells_block hOS.pb.b2).2 1
                    have fin : ∀ {W' : World} {v0 v1 : Value}, (wc.setCell ⟨w.heap.size + 1 + 1, 0, none⟩ v0).setCell ⟨w.heap.size + 1 + 1, 1, none⟩ v1 = W' → W'.cell? ⟨w.heap.size + 1 + 1, 0, none⟩ = some v0 ∧ W'.cell? ⟨w.heap.size + 1 + 1, 1, none⟩ = some v1 ∧ Below w.heap.size w W' ∧ DA W' (putH c h L) (some ⟨gc', 0, none⟩) gc' cc' (some ⟨gh', 0, none⟩) gh' ch' := by
                      intro W' v0 v1 hW'
                      have h1 := heap_set_same (heap_set_same hOS.pb.b2 (o := 0) v0) (o := 1) v1
                      have hgt := hOS.gt
                      rw [hW'] at h1
                      refine ⟨(cells_block h1).1 0, (cells_block h1).1 1, ?_, ?_⟩
                      · rw [← hW']
                        exact (hOS.pb.be.setCell (p := ⟨w.heap.size + 1 + 1, 0, none⟩) (by show _ ≤ w.heap.size + 1 + 1; omega) _).setCell (p := ⟨w.heap.size + 1 + 1, 1, none⟩) (by show _ ≤ w.heap.size + 1 + 1; omega) _
                      · rw [← hW']
                        refine hDA _ ?_ ?_ (by simp)
                        · rw [heap_set_other _ (by omega), heap_set_other _ (by omega)]
                        · rw [heap_set_other _ (by omega), heap_set_other _ (by omega)]
                    have FIN : Hid _ := @fin
                    have hgt := hOS.gt
                    clear fin hDA hOS h0 hX hY
                    go_wp2
                    generalize hW' : (wc.setCell ⟨w.heap.size + 1 + 1, 0, none⟩ _).setCell ⟨w.heap.size + 1 + 1, 1, none⟩ _ = W'
                    obtain ⟨z0, z1, hB, hDA⟩ := FIN.out hW'
                    exact bodyPost_ret (v := .tuple #[dV (putH c h L) (some ⟨gc', 0, none⟩) cc' (some ⟨gh', 0, none⟩) ch', .int .i64 0]) (by simp [results, Try.results5, go_sem, z0, z1]) rfl ⟨⟨_, _, _, _, _, _, rfl, hDA, by omega, by omega⟩, hB⟩

end Go.Proofs.Ytijfmgpipnhkkaa
