/-
  The contract of cells.take: one cell read from a reader.
-/
import Derived.Test.YtfjomggofncdmaaCDec
import Derived.Laws.ResultCell
namespace Go.Proofs.Ytfjomggofncdmaa
open Go.RowKit Go.BigFrame Go.Sort
attribute [local go_sem] size_bstr toList_bstr ls_def

def l1 (l : List UInt8) : List UInt8 := tR 65536 l
def l2 (l : List UInt8) : List UInt8 := tR 65536 (l1 l)
def l3 (l : List UInt8) : List UInt8 := nR (l2 l)
def l4 (l : List UInt8) : List UInt8 := bR (l3 l)
/-- What is left behind a cell. -/
def l5 (l : List UInt8) : List UInt8 := tR 65536 (l4 l)
/-- The cell with which bytes begin. -/
def cellOf (l : List UInt8) : Cl := ⟨tV 65536 l, tV 65536 (l1 l), (nV (l2 l) : Int), bV (l3 l) == 1, tV 65536 (l4 l)⟩
def takeOk (l : List UInt8) : Bool := okT 65536 l && okT 65536 (l1 l) && okN (l2 l) && okB (l3 l) && okT 65536 (l4 l) && decide ((bV (l3 l)).toNat ≤ 1) && okC (cellOf l)
theorem tR_len (m : Nat) (l : List UInt8) : (tR m l).length ≤ l.length := by unfold tR; split <;> simp
theorem nR_len (l : List UInt8) : (nR l).length ≤ l.length := by unfold nR; split <;> simp
theorem bR_len (l : List UInt8) : (bR l).length ≤ l.length := by cases l <;> simp [bR]

/-- The block of an answer that is a cell, untouched. -/
def Rz (W : World) (n : Nat) : Prop := W.heap[n]? = some (.cells #[.string ⟨#[]⟩, .string ⟨#[]⟩, .int .u64 0, .bool false, .string ⟨#[]⟩] 24 (0, 0))
theorem Rz.facts {W : World} {n : Nat} (h : Rz W n) : W.cell? ⟨n, 0, none⟩ = some (.string ⟨#[]⟩) ∧ W.cell? ⟨n, 1, none⟩ = some (.string ⟨#[]⟩) ∧ W.cell? ⟨n, 2, none⟩ = some (.int .u64 0) ∧ W.cell? ⟨n, 3, none⟩ = some (.bool false) ∧ W.cell? ⟨n, 4, none⟩ = some (.string ⟨#[]⟩) ∧
    W.frozen? ⟨n, 0, none⟩ = false ∧ W.frozen? ⟨n, 1, none⟩ = false ∧ W.frozen? ⟨n, 2, none⟩ = false ∧ W.frozen? ⟨n, 3, none⟩ = false ∧ W.frozen? ⟨n, 4, none⟩ = false := by
  unfold Rz at h
  refine ⟨?_, ?_, ?_, ?_, ?_, ?_, ?_, ?_, ?_, ?_⟩ <;> simp [World.cell?, World.frozen?, h]
theorem Rz.lt {W : World} {n : Nat} (h : Rz W n) : n < W.heap.size := lt_of_block h
theorem Rz.grown {W W' : World} {n g : Nat} (h : Rz W n) (hg : W.grownBy W' (some g)) (hne : g ≠ n) : Rz W' n := (hg.block n h.lt (fun e => hne (by cases e; rfl))).trans h
theorem Rz.step {W W' : World} {n : Nat} (h : Rz W n) (hb : RowKit.Below W.heap.size W W') : Rz W' n := (hb.block n h.lt).trans h
theorem Rz.new (w : World) : Rz (w.alloc (.cells #[.string ⟨#[]⟩, .string ⟨#[]⟩, .int .u64 0, .bool false, .string ⟨#[]⟩] 24)) w.heap.size := heap_alloc_new w _
theorem g_put5 {w W : World} {n g : Nat} {p q r s t : Value} (h : w.grownBy W (some g)) (hne : w.heap.size ≤ n) : w.grownBy (((((W.setCell ⟨n, 0, none⟩ p).setCell ⟨n, 1, none⟩ q).setCell ⟨n, 2, none⟩ r).setCell ⟨n, 3, none⟩ s).setCell ⟨n, 4, none⟩ t) (some g) := by
  have hb := below_set5 (n := n) p q r s t (RowKit.Below.refl n W) (Nat.le_refl _)
  exact ⟨hb.os.trans h.os, hb.tape.trans h.tape, hb.output.trans h.output, Nat.le_trans h.size hb.size, fun k hk hkg => (hb.block k (by omega)).trans (h.block k hk hkg)⟩

set_option maxHeartbeats 4000000 in
set_option maxRecDepth 100000 in
theorem take_any (g : Nat) (l : List UInt8) (w : World) (h : Rd w g (bstr l)) (hl : l.length ≤ 1048576) :
    Calls Try.prog 19 #[.pointer (some ⟨g, 0, none⟩)] w fun e w' => (takeOk l = true → e = .returned (.tuple #[clV (cellOf l), .bool true]) ∧ Rd w' g (bstr (l5 l))) ∧ (takeOk l = false → ∃ c, e = .returned (.tuple #[clV c, .bool false])) ∧ w.grownBy w' (some g) := by
  have e1 : (l1 l).length ≤ l.length := tR_len 65536 l
  have e2 : (l2 l).length ≤ (l1 l).length := tR_len 65536 (l1 l)
  have e3 : (l3 l).length ≤ (l2 l).length := nR_len (l2 l)
  have e4 : (l4 l).length ≤ (l3 l).length := bR_len (l3 l)
  have hglt := h.lt
  have hgne : g ≠ w.heap.size := by omega
  have hB0 : RowKit.Below w.heap.size w (w.alloc (.cells #[.string ⟨#[]⟩, .string ⟨#[]⟩, .int .u64 0, .bool false, .string ⟨#[]⟩] 24)) := (RowKit.Below.refl _ _).alloc (Nat.le_refl _) _
  have h0 := h.below hB0 hglt
  have z := Rz.new w
  go_enter Try.func19, Try.ntmps19
  go_wp2_with fail
  generalize w.alloc (.cells #[.string ⟨#[]⟩, .string ⟨#[]⟩, .int .u64 0, .bool false, .string ⟨#[]⟩] 24) = w0 at *
  have hG : w.grownBy w0 (some g) := grown_of_below hB0
  clear hB0 h
  refine (Text_r g 65536 l w0 h0 (by omega) (by omega)).mono ?_
  rintro e w1 ⟨rfl, r1, g1⟩
  replace z := z.grown g1 hgne
  replace hG := grown_trans hG g1
  clear h0 g1
  go_wp2_with fail
  refine (Text_r g 65536 (l1 l) w1 r1 (by omega) (by omega)).mono ?_
  rintro e w2 ⟨rfl, r2, g2⟩
  replace z := z.grown g2 hgne
  replace hG := grown_trans hG g2
  clear r1 g2
  go_wp2_with fail
  refine (Number_r g (l2 l) w2 r2 (by omega)).mono ?_
  rintro e w3 ⟨rfl, r3, g3⟩
  replace z := z.grown g3 hgne
  replace hG := grown_trans hG g3
  clear r2 g3
  go_wp2_with fail
  refine (Byte_r g (l3 l) w3 r3).mono ?_
  rintro e w4 ⟨rfl, r4, g4⟩
  replace z := z.grown g4 hgne
  replace hG := grown_trans hG g4
  clear r3 g4
  go_wp2_with fail
  refine (Text_r g 65536 (l4 l) w4 r4 (by omega) (by omega)).mono ?_
  rintro e w5 ⟨rfl, r5, g5⟩
  replace z := z.grown g5 hgne
  replace hG := grown_trans hG g5
  clear r4 g5
  obtain ⟨z0, z1, z2, z3, z4, f0, f1, f2, f3, f4⟩ := z.facts
  replace hgne : w.heap.size ≤ w.heap.size := Nat.le_refl _
  cases ha : okT 65536 l with
  | false =>
    have HB := ha
    have ht : Hid (takeOk l = false) := by show _ = _; simp [takeOk, HB]
    go_wp2
    generalize hW : ((((w5.setCell ⟨w.heap.size, 0, none⟩ _).setCell ⟨w.heap.size, 1, none⟩ _).setCell ⟨w.heap.size, 2, none⟩ _).setCell ⟨w.heap.size, 3, none⟩ _).setCell ⟨w.heap.size, 4, none⟩ _ = W'
    obtain ⟨q0, q1, q2, q3, q4⟩ := set5_reads z0 z1 z2 z3 z4 hW
    refine bodyPost_ret (v := .tuple #[clV ⟨[], [], 0, false, []⟩, .bool false]) (by rw [results_cell_tmp Try.results19]; simp [go_sem, q0, q1, q2, q3, q4]; rfl) rfl ⟨(fun hx => by rw [ht.out] at hx; cases hx), fun _ => ⟨_, rfl⟩, ?_⟩
    rw [← hW]
    exact g_put5 hG hgne
  | true =>
    cases hb : okT 65536 (l1 l) with
    | false =>
      have HB := hb
      have ht : Hid (takeOk l = false) := by show _ = _; simp [takeOk, HB]
      go_wp2
      generalize hW : ((((w5.setCell ⟨w.heap.size, 0, none⟩ _).setCell ⟨w.heap.size, 1, none⟩ _).setCell ⟨w.heap.size, 2, none⟩ _).setCell ⟨w.heap.size, 3, none⟩ _).setCell ⟨w.heap.size, 4, none⟩ _ = W'
      obtain ⟨q0, q1, q2, q3, q4⟩ := set5_reads z0 z1 z2 z3 z4 hW
      refine bodyPost_ret (v := .tuple #[clV ⟨[], [], 0, false, []⟩, .bool false]) (by rw [results_cell_tmp Try.results19]; simp [go_sem, q0, q1, q2, q3, q4]; rfl) rfl ⟨(fun hx => by rw [ht.out] at hx; cases hx), fun _ => ⟨_, rfl⟩, ?_⟩
      rw [← hW]
      exact g_put5 hG hgne
    | true =>
      cases hd : okN (l2 l) with
      | false =>
        have HB := hd
        have ht : Hid (takeOk l = false) := by show _ = _; simp [takeOk, HB]
        go_wp2
        generalize hW : ((((w5.setCell ⟨w.heap.size, 0, none⟩ _).setCell ⟨w.heap.size, 1, none⟩ _).setCell ⟨w.heap.size, 2, none⟩ _).setCell ⟨w.heap.size, 3, none⟩ _).setCell ⟨w.heap.size, 4, none⟩ _ = W'
        obtain ⟨q0, q1, q2, q3, q4⟩ := set5_reads z0 z1 z2 z3 z4 hW
        refine bodyPost_ret (v := .tuple #[clV ⟨[], [], 0, false, []⟩, .bool false]) (by rw [results_cell_tmp Try.results19]; simp [go_sem, q0, q1, q2, q3, q4]; rfl) rfl ⟨(fun hx => by rw [ht.out] at hx; cases hx), fun _ => ⟨_, rfl⟩, ?_⟩
        rw [← hW]
        exact g_put5 hG hgne
      | true =>
        cases he : okB (l3 l) with
        | false =>
          have HB := he
          have ht : Hid (takeOk l = false) := by show _ = _; simp [takeOk, HB]
          go_wp2
          generalize hW : ((((w5.setCell ⟨w.heap.size, 0, none⟩ _).setCell ⟨w.heap.size, 1, none⟩ _).setCell ⟨w.heap.size, 2, none⟩ _).setCell ⟨w.heap.size, 3, none⟩ _).setCell ⟨w.heap.size, 4, none⟩ _ = W'
          obtain ⟨q0, q1, q2, q3, q4⟩ := set5_reads z0 z1 z2 z3 z4 hW
          refine bodyPost_ret (v := .tuple #[clV ⟨[], [], 0, false, []⟩, .bool false]) (by rw [results_cell_tmp Try.results19]; simp [go_sem, q0, q1, q2, q3, q4]; rfl) rfl ⟨(fun hx => by rw [ht.out] at hx; cases hx), fun _ => ⟨_, rfl⟩, ?_⟩
          rw [← hW]
          exact g_put5 hG hgne
        | true =>
          cases hf : okT 65536 (l4 l) with
          | false =>
            have HB := hf
            have ht : Hid (takeOk l = false) := by show _ = _; simp [takeOk, HB]
            go_wp2
            generalize hW : ((((w5.setCell ⟨w.heap.size, 0, none⟩ _).setCell ⟨w.heap.size, 1, none⟩ _).setCell ⟨w.heap.size, 2, none⟩ _).setCell ⟨w.heap.size, 3, none⟩ _).setCell ⟨w.heap.size, 4, none⟩ _ = W'
            obtain ⟨q0, q1, q2, q3, q4⟩ := set5_reads z0 z1 z2 z3 z4 hW
            refine bodyPost_ret (v := .tuple #[clV ⟨[], [], 0, false, []⟩, .bool false]) (by rw [results_cell_tmp Try.results19]; simp [go_sem, q0, q1, q2, q3, q4]; rfl) rfl ⟨(fun hx => by rw [ht.out] at hx; cases hx), fun _ => ⟨_, rfl⟩, ?_⟩
            rw [← hW]
            exact g_put5 hG hgne
          | true =>
            by_cases hgo : (bV (l3 l)).toNat ≤ 1
            · have hg1 : decide ((1 : Int) < ((bV (l3 l)).toNat : Int)) = false := by rw [decide_eq_false_iff_not]; omega
              have hb1 : (((bV (l3 l)).toNat : Int) == 1) = (bV (l3 l) == 1) := by
                generalize bV (l3 l) = x
                by_cases hx : x = 1
                · subst hx; rfl
                · have hx2 : ¬ (x.toNat : Int) = 1 := fun e => hx (UInt8.toNat_inj.1 (show x.toNat = 1 by omega))
                  have : (x == 1) = false := by simpa using hx
                  rw [this]
                  simpa using hx2
              have hcon := fun W => Cell_any (tV 65536 l) (tV 65536 (l1 l)) (nV (l2 l) : Int) (bV (l3 l) == 1) (tV 65536 (l4 l)) W
              have hW1 : RowKit.Below w5.heap.size w5 (w5.alloc (.cells #[.string (bstr (tV 65536 l)), .string (bstr (tV 65536 (l1 l))), .int .u64 (nV (l2 l) : Int), .bool (bV (l3 l) == 1), .string (bstr (tV 65536 (l4 l)))] 24)) := (RowKit.Below.refl _ _).alloc (Nat.le_refl _) _
              have hA := CellAt.new w5 24 (tV 65536 l) (tV 65536 (l1 l)) (nV (l2 l) : Int) (bV (l3 l) == 1) (tV 65536 (l4 l))
              clear z0 z1 z2 z3 z4 f0 f1 f2 f3 f4
              go_wp2_with fail
              refine (hcon _).mono ?_
              rintro e w6 ⟨rfl, hb6⟩
              have hA6 := hA.step hb6
              have hb6' := below2 hW1 hb6
              have z6 := z.step hb6'
              have r6 := r5.below hb6' r5.lt
              have hG6 := grown_trans hG (grown_of_below hb6' (g := g))
              clear hcon hW1 hA hb6 hb6' z hG r5
              obtain ⟨z0, z1, z2, z3, z4, f0, f1, f2, f3, f4⟩ := z6.facts
              obtain ⟨a0, a1, a2, a3, a4⟩ := hA6
              cases hm : mayC (tV 65536 l) (tV 65536 (l1 l)) (nV (l2 l) : Int) (bV (l3 l) == 1) (tV 65536 (l4 l)) with
              | true =>
                have ht : Hid (takeOk l = true) := by
                  show _ = _
                  have : okC (cellOf l) = true := hm
                  simp [takeOk, ha, hb, hd, he, hf, hgo, this]
                rw [if_pos rfl]
                clear ha hb hd he hf hm
                go_wp2
                generalize hW : ((((w6.setCell ⟨w.heap.size, 0, none⟩ _).setCell ⟨w.heap.size, 1, none⟩ _).setCell ⟨w.heap.size, 2, none⟩ _).setCell ⟨w.heap.size, 3, none⟩ _).setCell ⟨w.heap.size, 4, none⟩ _ = W'
                obtain ⟨q0, q1, q2, q3, q4⟩ := set5_reads z0 z1 z2 z3 z4 hW
                refine bodyPost_ret (v := .tuple #[clV (cellOf l), .bool true]) (by rw [results_cell_tmp Try.results19]; simp [go_sem, q0, q1, q2, q3, q4]; exact ⟨rfl, rfl, rfl, rfl, rfl⟩) rfl ⟨fun _ => ⟨rfl, ?_⟩, (fun hx => by rw [ht.out] at hx; cases hx), ?_⟩
                · rw [← hW]
                  exact r6.below (below_set5 (n := w.heap.size) _ _ _ _ _ (RowKit.Below.refl w.heap.size w6) (Nat.le_refl _)) hglt
                · rw [← hW]
                  exact g_put5 hG6 hgne
              | false =>
                have ht : Hid (takeOk l = false) := by
                  show _ = _
                  have : okC (cellOf l) = false := hm
                  simp [takeOk, this]
                rw [if_neg (by simp)]
                clear ha hb hd he hf hm
                go_wp2
                generalize hW : ((((w6.setCell ⟨w.heap.size, 0, none⟩ _).setCell ⟨w.heap.size, 1, none⟩ _).setCell ⟨w.heap.size, 2, none⟩ _).setCell ⟨w.heap.size, 3, none⟩ _).setCell ⟨w.heap.size, 4, none⟩ _ = W'
                obtain ⟨q0, q1, q2, q3, q4⟩ := set5_reads z0 z1 z2 z3 z4 hW
                refine bodyPost_ret (v := .tuple #[clV ⟨[], [], 0, false, []⟩, .bool false]) (by rw [results_cell_tmp Try.results19]; simp [go_sem, q0, q1, q2, q3, q4]; rfl) rfl ⟨(fun hx => by rw [ht.out] at hx; cases hx), fun _ => ⟨_, rfl⟩, ?_⟩
                rw [← hW]
                exact g_put5 hG6 hgne
            · have hg1 : decide ((1 : Int) < ((bV (l3 l)).toNat : Int)) = true := by rw [decide_eq_true_eq]; omega
              have HB : decide ((bV (l3 l)).toNat ≤ 1) = false := by rw [decide_eq_false_iff_not]; exact hgo
              have ht : Hid (takeOk l = false) := by show _ = _; simp [takeOk, HB]
              go_wp2
              generalize hW : ((((w5.setCell ⟨w.heap.size, 0, none⟩ _).setCell ⟨w.heap.size, 1, none⟩ _).setCell ⟨w.heap.size, 2, none⟩ _).setCell ⟨w.heap.size, 3, none⟩ _).setCell ⟨w.heap.size, 4, none⟩ _ = W'
              obtain ⟨q0, q1, q2, q3, q4⟩ := set5_reads z0 z1 z2 z3 z4 hW
              refine bodyPost_ret (v := .tuple #[clV ⟨[], [], 0, false, []⟩, .bool false]) (by rw [results_cell_tmp Try.results19]; simp [go_sem, q0, q1, q2, q3, q4]; rfl) rfl ⟨(fun hx => by rw [ht.out] at hx; cases hx), fun _ => ⟨_, rfl⟩, ?_⟩
              rw [← hW]
              exact g_put5 hG hgne

end Go.Proofs.Ytfjomggofncdmaa
