/-
  The law's 'same', 'three' and 'works'.
-/
import Derived.Test.YtbllbcbjjocphabEFnd
import Derived.Test.YtbllbcbjjocphabCW0
namespace Go.Proofs.Ytbllbcbjjocphab
open Go.RowKit Go.BigFrame Go.Sort
attribute [local go_sem] size_bstr toList_bstr ls_def

set_option maxHeartbeats 2000000 in
set_option maxRecDepth 100000 in
theorem same10_any (q q' : Option Addr) (b off cap b' off' cap' : Nat) (cs : List Cl) (w : World) (hq : 0 < cs.length → q = some ⟨b, off, none⟩ ∧ CRow w b off cs) (hq' : 0 < cs.length → q' = some ⟨b', off', none⟩ ∧ CRow w b' off' cs) (hn : cs.length ≤ 4611686018427387904) :
    Calls Try.prog 22 #[.slice q cs.length cap, .slice q' cs.length cap'] w fun e w' => e = .returned (.bool true) ∧ RowKit.Below w.heap.size w w' := by
  go_enter Try.func22, Try.ntmps22
  go_wp2
  go_loopw [5] (fun s5 wr => ∃ i : Nat, s5 = .int .i64 (i : Int) ∧ i ≤ cs.length ∧ RowKit.Below w.heap.size w wr) (fun s5 _ => cs.length - (intOf s5).toNat)
  case atStart => exact ⟨0, rfl, by omega, RowKit.Below.refl _ _⟩
  case round =>
    obtain ⟨i, rfl, hil, hbel⟩ := hrel
    by_cases hlt : i < cs.length
    · obtain ⟨rfl, hR⟩ := hq (by omega)
      obtain ⟨rfl, hR'⟩ := hq' (by omega)
      obtain ⟨c0, c1, c2, c3, c4⟩ := (hR i hlt).step hbel (hR i hlt).lt
      obtain ⟨d0, d1, d2, d3, d4⟩ := (hR' i hlt).step hbel (hR' i hlt).lt
      have heq := eqC_self cs[i]
      have hiz : (i : Int) < (cs.length : Int) := by omega
      clear hR hR'
      generalize cs[i] = c at *
      obtain ⟨r, k, v, z, x⟩ := c
      simp only at c0 c1 c2 c3 c4 d0 d1 d2 d3 d4
      go_wp2_with fail
      go_quiet (fail)
      have hbe := below_drewN hbel nq
      clear c0 c1 c2 c3 c4 d0 d1 d2 d3 d4
      go_wp2
      go_roundw
      case rel => exact ⟨i + 1, by go_num, by omega, hbe⟩
      case measure => simp [intOf]; omega
    · have hie : i = cs.length := by omega
      subst hie
      go_wp2
      go_ret
      exact ⟨rfl, hbel⟩

/-- The chapter's third row. -/
abbrev k1 : Cl := ⟨[97, 98], [120], 2, false, [118]⟩
abbrev k2 : Cl := ⟨[97, 98], [120], 1, true, []⟩
abbrev k3 : Cl := ⟨[97, 98, 99], [121], 3, false, []⟩
def cs3 : List Cl := [k1, k2, k3]
def tx3 : List UInt8 := [0, 2, 97, 98, 1, 120, 2, 0, 1, 118, 2, 0, 1, 120, 1, 1, 0, 2, 1, 99, 1, 121, 3, 0, 0, 0, 0, 0, 1]
theorem blk3 : blkB cs3 = tx3 := by decide +kernel
theorem ok3 : okL cs3 = true := by decide +kernel
theorem good3 : Good cs3 := ⟨(okL_iff.1 ok3).1, (okL_iff.1 ok3).2, by rw [blk3]; decide⟩
theorem bld3 : bldB cs3 = tx3 ∧ bldE cs3 = 0 := by
  have := bld_ok ok3 good3.len
  rw [blk3] at this
  exact this
theorem fnd3 : fnd [97, 98] [120] cs3 = some k1 := rfl

set_option maxHeartbeats 1000000 in
set_option maxRecDepth 100000 in
theorem three_any (w : World) : Calls Try.prog 21 #[] w fun e w' => e = .returned (.tuple #[.slice (some ⟨w.heap.size, 0, none⟩) 3 3, .string (bstr tx3)]) ∧ CRow w' w.heap.size 0 cs3 ∧ w.heap.size < w'.heap.size ∧ RowKit.Below w.heap.size w w' := by
  go_enter Try.func21, Try.ntmps21
  go_wp2
  go_ret2
  exact ⟨rfl, CRow.lit w cs3 24, by simp, (RowKit.Below.refl _ _).alloc (Nat.le_refl _) _⟩

set_option maxHeartbeats 2000000 in
set_option maxRecDepth 100000 in
theorem works10_any (w : World) : Calls Try.prog 7 #[] w fun e w' => e = .returned (.bool true) ∧ RowKit.Below w.heap.size w w' := by
  go_enter Try.func7, Try.ntmps7
  go_wp2_with fail
  refine (three_any w).mono ?_
  rintro e w1 ⟨rfl, hR1, hs1, hb1⟩
  go_wp2_with fail
  have hB := Build_any (some ⟨w.heap.size, 0, none⟩) w.heap.size 0 3 cs3 w1 (fun _ => ⟨rfl, hR1, hs1⟩) (by decide)
  rw [bld3.1, bld3.2] at hB
  refine hB.mono ?_
  rintro e w2 ⟨rfl, hb2⟩
  have hR2 := hR1.step hb2 hs1
  have hB2 := below2 hb1 hb2
  have hs2 : w.heap.size < w2.heap.size := Nat.lt_of_lt_of_le hs1 hb2.size
  clear hR1 hb1 hs1 hb2 hB
  go_wp2_with fail
  refine (Read_any tx3 w2 (by decide)).mono ?_
  rintro e w3 ⟨hQ, hb3⟩
  obtain ⟨L, q, c, rfl, hG, hL, hown⟩ | ⟨_, hno⟩ := hQ
  case inr => exact absurd blk3 (hno cs3 good3)
  have hLe : L = cs3 := hG.inj good3 (hL.trans blk3.symm)
  subst hLe
  have hR3 := hR2.step hb3 hs2
  have hB3 := below2 hB2 hb3
  have hs3 : w.heap.size < w3.heap.size := Nat.lt_of_lt_of_le hs2 hb3.size
  obtain ⟨g7, cap7, hv7, _, hg7, _, _, hCR, _⟩ := own_crow hown (by intro h; cases h)
  cases hv7
  clear hR2 hB2 hs2 hb3 hown hG hL
  go_wp2_with fail
  refine (Find_any tx3 [97, 98] [120] w3 (by decide)).mono ?_
  rintro e w4 ⟨hQ, hb4⟩
  obtain ⟨L, hG, hL, rfl⟩ | ⟨_, hno⟩ := hQ
  case inr => exact absurd blk3 (hno cs3 good3)
  have hLe : L = cs3 := hG.inj good3 (hL.trans blk3.symm)
  subst hLe
  rw [fnd3, show optC (some k1) = k1 from rfl]
  have hR4 := hR3.step hb4 hs3
  have hB4 := below2 hB3 hb4
  have hs4 : w.heap.size < w4.heap.size := Nat.lt_of_lt_of_le hs3 hb4.size
  have hC4 := hCR.step hb4 hg7
  have hg4 : g7 < w4.heap.size := Nat.lt_of_lt_of_le hg7 hb4.size
  clear hR3 hB3 hs3 hb4 hCR hG hL hg7
  have hk : At5 w4 w.heap.size 0 k1 := hR4 0 (by decide)
  generalize k1 = p at *
  obtain ⟨r, k, v, z, x⟩ := p
  have heq := eqC_self ⟨r, k, v, z, x⟩
  have hN := CellAt.new w4 24 r k v z x
  have hb5 : RowKit.Below w4.heap.size w4 (w4.alloc (.cells #[.string (bstr r), .string (bstr k), .int .u64 v, .bool z, .string (bstr x)] 24)) := (RowKit.Below.refl _ _).alloc (Nat.le_refl _) _
  obtain ⟨p0, p1, p2, p3, p4⟩ := hk.step hb5 hs4
  have hsm : ∀ W, RowKit.Below w4.heap.size w4 W → Calls Try.prog 22 #[.slice (some ⟨g7, 0, none⟩) cs3.length c, .slice (some ⟨w.heap.size, 0, none⟩) 3 3] W fun e w' => e = .returned (.bool true) ∧ RowKit.Below W.heap.size W w' := fun W hb => same10_any (some ⟨g7, 0, none⟩) (some ⟨w.heap.size, 0, none⟩) g7 0 c w.heap.size 0 3 cs3 W (fun _ => ⟨rfl, hC4.step hb hg4⟩) (fun _ => ⟨rfl, hR4.step hb hs4⟩) (by decide)
  go_wp2_with fail
  generalize w4.alloc (.cells #[.string (bstr r), .string (bstr k), .int .u64 v, .bool z, .string (bstr x)] 24) = W4 at *
  have hsq := fun d os => hsm _ (below2 hb5 (below_regrown W4 d os))
  have n0 := fun d os => cell_regrown hN.c0 d os
  have n1 := fun d os => cell_regrown hN.c1 d os
  have n2 := fun d os => cell_regrown hN.c2 d os
  have n3 := fun d os => cell_regrown hN.c3 d os
  have n4 := fun d os => cell_regrown hN.c4 d os
  have m0 := fun d os => cell_regrown p0 d os
  have m1 := fun d os => cell_regrown p1 d os
  have m2 := fun d os => cell_regrown p2 d os
  have m3 := fun d os => cell_regrown p3 d os
  have m4 := fun d os => cell_regrown p4 d os
  have hd0 : (tx3 == tx3) = true := by simp
  refine wp_region_quiet_below (by kernel_rfl) (by kernel_rfl) ?_
  repeat (go_big_quiet_step (first
    | (go_at_call 22; exact Calls.regrown_of (hsq _ _))))
  refine wpQuiet_nil ?_
  intro _ hw'
  obtain ⟨⟨dq, osq⟩, hw''⟩ := hw'
  subst hw''
  have hb6 := below2 hB4 (below2 hb5 (below_regrown W4 dq osq))
  generalize grow (redrawn W4 dq) osq = W5 at *
  clear n0 n1 n2 n3 n4 m0 m1 m2 m3 m4 p0 p1 p2 p3 p4 hsq hsm
  go_wp2
  go_ret
  exact ⟨rfl, hb6⟩

end Go.Proofs.Ytbllbcbjjocphab
