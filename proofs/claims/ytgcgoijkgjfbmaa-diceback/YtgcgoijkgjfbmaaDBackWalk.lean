/-
  The walk of the law DiceBack over this seat's translation: it returns true, and of what was there nothing has turned.
-/
import Derived.Test.YtgcgoijkgjfbmaaDLay
import Derived.Test.YtgcgoijkgjfbmaaDWks
import Derived.Deep.RegionHeld3
namespace Go.Proofs.Ytgcgoijkgjfbmaa
open Go.RowKit Go.BigFrame

theorem wrap_i64_of {x : Int} (h1 : -9223372036854775808 ≤ x) (h2 : x ≤ 9223372036854775807) : IntKind.i64.wrap x = x := by rw [IntKind.wrap_i64]; omega
theorem nxV_byte (b : UInt8) (l : List UInt8) : nxV 256 (b :: l) = (b.toNat : Int) := by
  have := b.toNat_lt
  have hw : wid 256 = 1 := by decide
  unfold nxV
  rw [hw, if_neg (by simp), tk_one]
  omega
theorem nxR_byte (b : UInt8) (l : List UInt8) : nxR 256 (b :: l) = l := rfl
theorem nxV_nil (n : Int) : nxV n [] = 0 := by
  unfold nxV
  by_cases h : wid n = 0
  · rw [h, if_neg (by simp), tk_zero]
    simp
  · rw [if_pos (by simp; omega)]
theorem nxR_nil (n : Int) : nxR n [] = [] := by simp [nxR]
theorem tmod_bounds (x : Int) : -256 < x.tmod 256 ∧ x.tmod 256 < 256 ∧ (x.tmod 256 + 256) % 256 = x % 256 := by
  have h1 := Int.tmod_add_mul_tdiv x 256
  have h2 : x.tmod 256 < 256 := Int.tmod_lt_of_pos x (by omega)
  have h3 : -256 < x.tmod 256 := by
    have := Int.lt_tmod_of_pos x (show (0 : Int) < 256 by omega)
    omega
  exact ⟨h3, h2, by omega⟩

set_option maxHeartbeats 2000000 in
set_option maxRecDepth 100000 in
theorem back_walk (q : Option Addr) (cap : Nat) (L : List Int) (n : Int) (w : World) (hA : IArg w q L) (hc : L.length ≤ cap) :
    Calls Try.prog 5 #[.slice q L.length cap, .int .i64 n] w fun e w' => e = .returned (.bool true) ∧ Below w.heap.size w w' := by
  obtain ⟨N, hN, hN3, hNl⟩ : ∃ N : Nat, min (L.length : Int) 300 = (N : Int) ∧ N ≤ 300 ∧ N ≤ L.length := ⟨min L.length 300, by omega, by omega, by omega⟩
  have hI0 : (0 : Int) ≤ (N : Int) := by omega
  have hI1 : (N : Int) ≤ (cap : Int) := by omega
  go_enter Try.func5, Try.ntmps5
  go_wp2_with fail
  obtain ⟨l, hl, hlN⟩ : ∃ l, l = L.take N ∧ N = l.length := ⟨_, rfl, by rw [List.length_take]; omega⟩
  have hAl : IArg w q l := by rw [hl]; exact hA.take N
  have HL : Hid _ := hN
  clear hN hl
  subst hlN
  refine (Lay_any q cap l _ hAl (by omega)).mono ?_
  rintro e w1 ⟨v, rfl, ho, hb1⟩
  obtain ⟨q1, cap1, rfl, hln, hc1, hc2, hq1, _⟩ := own_barg ho
  have hnew := New_any q1 cap1 _ w1 (BArg.of_own hq1) (by simp; omega)
  rw [← hln] at hnew ⊢
  clear hln ho hq1 hc1
  go_wp2_with fail
  refine hnew.mono ?_
  clear hnew
  rintro e w2 ⟨g, rfl, hd, hb2⟩
  have hb := b_step hb1 hb2 (Nat.le_refl _)
  have hgw : w.heap.size ≤ g := by have := hd.1; have := hb1.size; omega
  have hBw : w.heap.size ≤ w1.heap.size := hb1.size
  have hleft := Left_any g _ _ _ _ hd
  rw [List.length_map] at hleft
  clear hb1 hb2
  go_wp2_with fail
  refine hleft.mono ?_
  clear hleft
  rintro e w3 ⟨rfl, rfl⟩
  go_wp2
  obtain ⟨C, hC⟩ : ∃ C, C = w3.heap.size := ⟨_, rfl⟩
  rw [← hC] at hd
  clear hC
  generalize w1.heap.size = B at *
  go_loopw [6] (fun s6 wr => ∃ i : Nat, s6 = .int .i64 (i : Int) ∧ i ≤ l.length ∧ Dc wr B C g ((l.drop i).map byt) ∧ Below w.heap.size w wr) (fun s6 _ => l.length - (intOf s6).toNat)
  case atStart => exact ⟨0, rfl, by omega, hd, hb⟩
  case round =>
    obtain ⟨i, rfl, hil, hdi, hbel⟩ := hrel
    clear hd hb
    by_cases hlt : i < l.length
    · obtain ⟨b, off, rfl, hbl, hR⟩ := hAl (by omega)
      have c0 : wr.cell? ⟨b, off + i, none⟩ = some (.int .i64 l[i]) := (hR.block (hbel.block b hbl)) i hlt
      have hI : (i : Int) < (l.length : Int) := by omega
      rw [List.drop_eq_getElem_cons hlt, List.map_cons] at hdi
      have hbt := byt_toNat l[i]
      obtain ⟨t1, t2, t3⟩ := tmod_bounds l[i]
      have hnx := Next_any g B C 256 _ wr.drew hdi
      rw [nxV_byte, nxR_byte, hbt] at hnx
      have ht0 := Int.emod_nonneg l[i] (show (256 : Int) ≠ 0 by omega)
      have ht4 := Int.emod_lt_of_pos l[i] (show (0 : Int) < 256 by omega)
      have ht5 : (l[i].tmod 256 + 256).tmod 256 = l[i] % 256 := by rw [Int.tmod_eq_emod_of_nonneg (by omega)]; exact t3
      clear hdi hbt t3
      generalize l[i] = x at *
      obtain ⟨t, ht⟩ : ∃ t, x.tmod 256 = t := ⟨_, rfl⟩
      rw [ht] at t1 t2 ht5
      obtain ⟨u, hu⟩ : ∃ u, x % 256 = u := ⟨_, rfl⟩
      rw [hu] at ht5 hnx ht0 ht4
      clear hu
      have hwr : IntKind.i64.wrap (t + 256) = t + 256 := wrap_i64_of (by omega) (by omega)
      go_wp2_with fail
      go_region_held3 (fun w' => w'.cell? ⟨b, off + i, none⟩ = some (.int .i64 x)) (first | with_reducible exact c0 | with_reducible exact c2 | go_keep) ((go_at_call 11; refine (hnx).mono ?_; rintro e w4 ⟨rfl, hd4, hg4⟩; have hb4 := b_grown (Below.drew hbel) hg4 (Nat.le_refl _) hgw; have c2 : w4.cell? ⟨b, off + i, none⟩ = some (.int .i64 x) := (World.cell?_of_block (a := ⟨b, off + i, none⟩) (hg4.block b (block_lt_of_cell c0) (by simp; omega))).trans c0))
      all_goals
        clear c0 hnx
        go_wp2
        go_roundw
        case rel => exact ⟨i + 1, by go_num, by omega, hd4, hb4⟩
        case measure => simp [intOf]; omega
    · have hie : i = l.length := by omega
      subst hie
      rw [List.drop_length, List.map_nil] at hdi
      go_wp2_with fail
      refine (Left_any g _ _ _ _ hdi).mono ?_
      rintro e w4 ⟨rfl, rfl⟩
      go_wp2_with fail
      refine (Next_any g _ _ n _ _ hdi).mono ?_
      rw [nxV_nil, nxR_nil]
      rintro e w5 ⟨rfl, hd5, hg5⟩
      have hb5 := b_grown hbel hg5 (Nat.le_refl _) hgw
      go_wp2_with fail
      refine (Left_any g _ _ _ _ hd5).mono ?_
      rintro e w6 ⟨rfl, rfl⟩
      go_wp2_with fail
      refine (works_any _).mono ?_
      rintro e w7 ⟨rfl, hb7⟩
      have hb8 := b_step hb5 hb7 (Nat.le_refl _)
      go_wp2
      go_ret
      exact ⟨rfl, hb8⟩

end Go.Proofs.Ytgcgoijkgjfbmaa
