/-
  The walk of the law DiceWithin over this seat's translation: it returns true, and of what was there nothing has turned.
-/
import Derived.Test.YtgcgoijkgjfbmaaDLay
import Derived.Test.YtgcgoijkgjfbmaaDWks
import Derived.Deep.RegionHeld3
namespace Go.Proofs.Ytgcgoijkgjfbmaa
open Go.RowKit Go.BigFrame

theorem nxR_length (n : Int) (l : List UInt8) : (nxR n l).length ≤ l.length ∧ l.length ≤ (nxR n l).length + 2 ∧ (n < 2 → (nxR n l).length = l.length) := by
  unfold nxR
  have := wid_le n
  rw [List.length_drop]
  refine ⟨by omega, by omega, fun h => ?_⟩
  have : wid n = 0 := by unfold wid; rw [if_neg (by omega), if_neg (by omega)]
  omega
theorem nxV_bounds (n : Int) (l : List UInt8) : 0 ≤ nxV n l ∧ nxV n l < max n 1 := by
  unfold nxV
  by_cases h : l.length < wid n
  · rw [if_pos h]; omega
  · rw [if_neg h]
    by_cases h0 : wid n = 0
    · rw [h0, tk_zero]
      simp
      omega
    · have h2 := wid_pos h0
      have h3 := Int.emod_nonneg (tk (wid n) 0 l : Int) (show n ≠ 0 by omega)
      have h4 := Int.emod_lt_of_pos (tk (wid n) 0 l : Int) (show 0 < n by omega)
      omega
theorem nxV_small (n : Int) (l : List UInt8) : nxV n l < 65536 := by
  unfold nxV
  by_cases h : l.length < wid n
  · rw [if_pos h]; omega
  · rw [if_neg h]
    have h1 := tk_lt (wid n) l (wid_le n)
    by_cases h0 : wid n = 0
    · rw [h0, tk_zero]; simp
    · have h2 := wid_pos h0
      generalize tk (wid n) 0 l = t at *
      obtain ⟨m, rfl⟩ := Int.eq_ofNat_of_zero_le (show 0 ≤ n by omega)
      have := Nat.mod_le t m
      omega

set_option maxHeartbeats 4000000 in
set_option maxRecDepth 100000 in
theorem within_walk (q : Option Addr) (cap : Nat) (R : List UInt8) (q2 : Option Addr) (cap2 : Nat) (A : List Int) (w : World) (hA : BArg w q R) (hc : R.length ≤ cap) (hA2 : IArg w q2 A) :
    Calls Try.prog 6 #[.slice q R.length cap, .slice q2 A.length cap2] w fun e w' => e = .returned (.bool true) ∧ Below w.heap.size w w' := by
  obtain ⟨N, hN, hN3, hNl⟩ : ∃ N : Nat, min (R.length : Int) 400 = (N : Int) ∧ N ≤ 400 ∧ N ≤ R.length := ⟨min R.length 400, by omega, by omega, by omega⟩
  have hI0 : (0 : Int) ≤ (N : Int) := by omega
  have hI1 : (N : Int) ≤ (cap : Int) := by omega
  go_enter Try.func6, Try.ntmps6
  go_wp2_with fail
  obtain ⟨l, hl, hlN⟩ : ∃ l, l = R.take N ∧ N = l.length := ⟨_, rfl, by rw [List.length_take]; omega⟩
  have hAl : BArg w q l := by rw [hl]; exact hA.take N
  have HL : Hid _ := hN
  clear hN hl
  subst hlN
  refine (New_any q cap l _ hAl (by omega)).mono ?_
  rintro e w1 ⟨gd, rfl, hd, hb1⟩
  have hA1 := hAl.below hb1
  go_wp2_with fail
  refine (New_any q cap l _ hA1 (by omega)).mono ?_
  rintro e w2 ⟨ge, rfl, he, hb2⟩
  have hb := b_step hb1 hb2 (Nat.le_refl _)
  have hd2 := hd.below hb2 (Nat.le_refl _)
  have hgd : w.heap.size ≤ gd := hd.1
  have hge : w.heap.size ≤ ge := by have := he.1; have := hb1.size; omega
  obtain ⟨C1, hC1⟩ : ∃ C1, C1 = w1.heap.size := ⟨_, rfl⟩
  obtain ⟨C2, hC2⟩ : ∃ C2, C2 = w2.heap.size := ⟨_, rfl⟩
  rw [← hC1] at he hd2
  rw [← hC2] at he
  clear hd hb1 hb2 hA1 hC1 hC2
  go_wp2
  generalize w.heap.size = B0 at hd2
  go_loopw [7] (fun s7 wr => ∃ (i : Nat) (L : List UInt8), s7 = .int .i64 (i : Int) ∧ i ≤ A.length ∧ i ≤ 100 ∧ Dc wr B0 C1 gd L ∧ Dc wr C1 C2 ge L ∧ L.length ≤ 400 ∧ Below w.heap.size w wr) (fun s7 _ => 100 - (intOf s7).toNat)
  case atStart => exact ⟨0, l, rfl, by omega, by omega, hd2, he, hN3, hb⟩
  case round =>
    obtain ⟨i, L, rfl, hil, hi1, hdi, hei, hL, hbel⟩ := hrel
    clear hd2 he hb
    by_cases hlt : i < A.length ∧ i < 100
    · obtain ⟨hlt, hlt2⟩ := hlt
      obtain ⟨b, off, rfl, hbl, hR⟩ := hA2 (by omega)
      have c0 : wr.cell? ⟨b, off + i, none⟩ = some (.int .i64 A[i]) := (hR.block (hbel.block b hbl)) i hlt
      have hI2 : (i : Int) < (A.length : Int) := by omega
      have hI3 : (i : Int) < 100 := by omega
      generalize A[i] = x at *
      obtain ⟨v1, v2⟩ := nxV_bounds x L
      have v3 := nxV_small x L
      obtain ⟨r1, r2, r3⟩ := nxR_length x L
      go_wp2_with fail
      refine (Left_any gd _ _ _ _ hdi).mono ?_
      rintro e w3 ⟨rfl, rfl⟩
      go_wp2_with fail
      refine (Next_any gd _ _ x _ _ hdi).mono ?_
      rintro e w4 ⟨rfl, hd4, hg4⟩
      have he4 := hei.kept hg4 (.inl hdi.2.1)
      have hb4 := b_grown hbel hg4 (Nat.le_refl _) hgd
      have c4 : w4.cell? ⟨b, off + i, none⟩ = some (.int .i64 x) := (World.cell?_of_block (a := ⟨b, off + i, none⟩) (hg4.block b (block_lt_of_cell c0) (by simp; omega))).trans c0
      clear hdi hei hg4 hbel c0
      go_wp2_with fail
      refine (Left_any gd _ _ _ _ hd4).mono ?_
      rintro e w5 ⟨rfl, rfl⟩
      have hnx := Next_any ge _ _ x L w5 he4
      generalize nxV x L = v at *
      generalize nxR x L = L' at *
      obtain ⟨u, hu, u0, u2, ux⟩ : ∃ u : Nat, (L.length : Int) - (L'.length : Int) = (u : Int) ∧ u ≤ 2 ∧ L'.length ≤ 400 ∧ (x < 2 → u = 0) := ⟨L.length - L'.length, by omega, by omega, by omega, fun h => by have := r3 h; omega⟩
      have hu2 : (u : Int) ≤ 2 := by omega
      by_cases hx2 : x < 2
      · have hu0 : u = 0 := ux hx2
        subst hu0
        clear ux r3
        go_wp2_with fail
        refine hnx.mono ?_
        rintro e w6 ⟨rfl, he6, hg6⟩
        have hd6 := hd4.kept hg6 (.inr he4.1)
        have hb6 := b_grown hb4 hg6 (Nat.le_refl _) hge
        have c6 : w6.cell? ⟨b, off + i, none⟩ = some (.int .i64 x) := (World.cell?_of_block (a := ⟨b, off + i, none⟩) (hg6.block b (block_lt_of_cell c4) (by simp; omega))).trans c4
        clear hnx c4 hg6 hd4 he4 hb4
        go_wp2
        go_roundw
        case rel => exact ⟨i + 1, L', by go_num, by omega, by omega, hd6, he6, by omega, hb6⟩
        case measure => simp [intOf]; omega
      · clear ux r3
        go_wp2_with fail
        refine hnx.mono ?_
        rintro e w6 ⟨rfl, he6, hg6⟩
        have hd6 := hd4.kept hg6 (.inr he4.1)
        have hb6 := b_grown hb4 hg6 (Nat.le_refl _) hge
        have c6 : w6.cell? ⟨b, off + i, none⟩ = some (.int .i64 x) := (World.cell?_of_block (a := ⟨b, off + i, none⟩) (hg6.block b (block_lt_of_cell c4) (by simp; omega))).trans c4
        clear hnx c4 hg6 hd4 he4 hb4
        go_wp2
        go_roundw
        case rel => exact ⟨i + 1, L', by go_num, by omega, by omega, hd6, he6, by omega, hb6⟩
        case measure => simp [intOf]; omega
    · have hstop : ¬ ((i : Int) < (A.length : Int)) ∨ ¬ ((i : Int) < 100) := by omega
      clear hlt
      by_cases hs1 : (i : Int) < (A.length : Int)
      · have hs2 : ¬ (i : Int) < 100 := by omega
        go_wp2_with fail
        refine (Left_any gd _ _ _ _ hdi).mono ?_
        rintro e w3 ⟨rfl, rfl⟩
        go_wp2_with fail
        refine (Left_any ge _ _ _ _ hei).mono ?_
        rintro e w3 ⟨rfl, rfl⟩
        go_wp2_with fail
        refine (works_any _).mono ?_
        rintro e w4 ⟨rfl, hb4⟩
        have hb5 := b_step hbel hb4 (Nat.le_refl _)
        go_wp2
        go_ret
        exact ⟨rfl, hb5⟩
      · go_wp2_with fail
        refine (Left_any gd _ _ _ _ hdi).mono ?_
        rintro e w3 ⟨rfl, rfl⟩
        go_wp2_with fail
        refine (Left_any ge _ _ _ _ hei).mono ?_
        rintro e w3 ⟨rfl, rfl⟩
        go_wp2_with fail
        refine (works_any _).mono ?_
        rintro e w4 ⟨rfl, hb4⟩
        have hb5 := b_step hbel hb4 (Nat.le_refl _)
        go_wp2
        go_ret
        exact ⟨rfl, hb5⟩

end Go.Proofs.Ytgcgoijkgjfbmaa
