/-
  session.read: what lies in a cell.
-/
import Derived.Test.YtmgibkglbddlpaaDoorJSes
namespace Go.Proofs.YtmgibkglbddlpaaDoor
open Go.RowKit Go.BigFrame
attribute [local go_sem] size_bstr toList_bstr

theorem jSeq_any (n : Nat) (w : World) :
    Calls Tryd.prog 12 #[.int .u64 (n : Int)] w fun x w' => x = .returned (.bool (decide (1 ≤ n ∧ n ≤ 1099511627776))) ∧ w' = w := by
  go_enter Tryd.func12, Tryd.ntmps12
  by_cases h0 : 1 ≤ n
  · by_cases h1 : n ≤ 1099511627776
    · have g0 : (1 : Int) ≤ (n : Int) := by omega
      have g1 : (n : Int) ≤ 1099511627776 := by omega
      rw [decide_eq_true ⟨h0, h1⟩]
      clear h0 h1
      go_wp2
      go_ret
      exact ⟨rfl, rfl⟩
    · have g0 : (1 : Int) ≤ (n : Int) := by omega
      have g1 : (1099511627776 : Int) < (n : Int) := by omega
      rw [decide_eq_false (fun h => h1 h.2)]
      clear h0 h1
      go_wp2
      go_ret
      exact ⟨congrArg (fun b => Ending.returned (.bool b)) (decide_eq_false (by omega)), rfl⟩
  · have g0 : (n : Int) < 1 := by omega
    rw [decide_eq_false (fun h => h0 h.1)]
    clear h0
    go_wp2
    go_ret
    exact ⟨rfl, rfl⟩

/-- What lies in a cell: is it a session's; its Seq, its result; the error. -/
def rdOk (c : List UInt8) : Bool := decide (1 ≤ nV c ∧ nV c ≤ 1099511627776) && decO (nR c)
def rdN (c : List UInt8) : Nat := if rdOk c then nV c else 0
def rdR (c : List UInt8) : Rz := if rdOk c then decR (nR c) else rz0
def rdE (c : List UInt8) : Int := if c = [] then 0 else if rdOk c then 0 else 4
theorem nV_nil : nV [] = 0 := by
  unfold nV okN
  simp [numOf, numFrom]
theorem rdOk_nil : rdOk [] = false := by
  unfold rdOk
  rw [nV_nil]
  simp
theorem rdN_nil : rdN [] = 0 := by unfold rdN; rw [rdOk_nil]; rfl
theorem rdR_nil : rdR [] = rz0 := by unfold rdR; rw [rdOk_nil]; rfl
theorem rdE_nil : rdE [] = 0 := if_pos rfl

theorem rd_no {c : List UInt8} (h : c ≠ []) (h1 : rdOk c = false) : Ending.returned (.tuple #[anV (rdN c) (rdR c), .int .i64 (rdE c)]) = .returned (.tuple #[anV 0 rz0, .int .i64 4]) := by
  rw [show rdN c = 0 from by unfold rdN; rw [h1]; rfl, show rdR c = rz0 from by unfold rdR; rw [h1]; rfl, show rdE c = 4 from by unfold rdE; rw [if_neg h, h1]; rfl]
theorem rd_yes {c : List UInt8} (h : c ≠ []) (h1 : rdOk c = true) : Ending.returned (.tuple #[anV (rdN c) (rdR c), .int .i64 (rdE c)]) = .returned (.tuple #[anV (nV c) (decR (nR c)), .int .i64 0]) := by
  rw [show rdN c = nV c from by unfold rdN; rw [h1]; rfl, show rdR c = decR (nR c) from by unfold rdR; rw [h1]; rfl, show rdE c = 0 from by unfold rdE; rw [if_neg h, h1]; rfl]
theorem AnB.grow {w w' : World} {b n g : Nat} {r : Rz} (h : AnB w b n r) (g1 : w.grownBy w' (some g)) (hb : b ≠ g) : AnB w' b n r := (g1.block b (blk_lt h) (fun e => hb (by cases e; rfl))).trans h
theorem bel_grow {w W W' : World} {g : Nat} (h : Below w.heap.size w W) (g1 : W.grownBy W' (some g)) (hg : w.heap.size ≤ g) : Below w.heap.size w W' :=
  ⟨g1.os.trans h.os, g1.tape.trans h.tape, g1.output.trans h.output, Nat.le_trans h.size g1.size, fun k hk => (g1.block k (Nat.lt_of_lt_of_le hk h.size) (fun e => by cases e; omega)).trans (h.block k hk)⟩
set_option maxHeartbeats 4000000 in
set_option maxRecDepth 100000 in
theorem jRead_any (c : List UInt8) (w : World) (hl : c.length ≤ 65536) :
    Calls Tryd.prog 11 #[.string (bstr c)] w fun e w' => e = .returned (.tuple #[anV (rdN c) (rdR c), .int .i64 (rdE c)]) ∧ Below w.heap.size w w' := by
  obtain ⟨N, hN⟩ : ∃ N, N = w.heap.size := ⟨_, rfl⟩
  obtain ⟨w1, hw1⟩ : ∃ w1, w1 = w.alloc (.cells #[.int .u64 0, .int .i64 0, .bool false, .string ⟨#[]⟩, .string ⟨#[]⟩, .int .u64 0] 36) := ⟨_, rfl⟩
  have hz1 : AnB w1 w.heap.size 0 rz0 := by rw [hw1]; exact AnB.new w
  have hB1 : Below w.heap.size w w1 := by rw [hw1]; exact bel_alloc (Below.refl _ _)
  have HW : Hid _ := hw1
  clear hw1
  obtain ⟨z0, z1, z2, z3, z4, z5⟩ := hz1.facts
  simp only at z0 z1 z2 z3 z4 z5
  have fz := hz1.frz
  by_cases hc : c = []
  · subst hc
    rw [rdN_nil, rdR_nil, rdE_nil]
    go_enter Tryd.func11, Tryd.ntmps11
    go_upto_region 1 with fail
    rw [← HW.out]
    clear HW
    go_wp2
    exact ret_an2 rfl rfl rfl (hz1.set 0 rz0) rfl ⟨rfl, bel_set6 hB1⟩
  · have hlen : 0 < c.length := List.length_pos_iff.2 hc
    have he : c.isEmpty = false := by cases c <;> simp at hc ⊢
    have hli : (c.length : Int) ≤ 65536 := by omega
    go_enter Tryd.func11, Tryd.ntmps11
    go_upto_region 1 with fail
    rw [← HW.out]
    clear HW
    obtain ⟨D, hD⟩ : ∃ D, D = if decO (nR c) then decR (nR c) else rz0 := ⟨_, rfl⟩
    obtain ⟨ok, hok⟩ : ∃ ok, ok = decO (nR c) := ⟨_, rfl⟩
    obtain ⟨sq, hsq⟩ : ∃ sq, sq = decide (1 ≤ nV c ∧ nV c ≤ 1099511627776) := ⟨_, rfl⟩
    have hrd : rdOk c = (sq && ok) := by rw [hsq, hok]; rfl
    have HD : Hid _ := hD
    have HO : Hid _ := hok
    have HS : Hid _ := hsq
    have HR : Hid _ := hrd
    have HC : Hid _ := hc
    have HLEN := rest_len c
    have HL2 : Hid ((nR c).length ≤ 1048576) := by show _ ≤ _; omega
    clear hD hok hsq hrd HLEN hc
    go_wp2_with fail
    refine (New_any (bstr c) w1).mono ?_
    rintro e w2 ⟨rfl, r2, hb2⟩
    obtain ⟨g, hg⟩ : ∃ g, g = w1.heap.size := ⟨_, rfl⟩
    rw [← hg] at r2 ⊢
    have hz2 := hz1.below hb2 hz1.lt
    have hB2 := bel_call hb2 hB1
    have hgw : w.heap.size < g := by rw [hg]; exact hz1.lt
    have HG : Hid _ := hgw
    clear hz1 hB1 hb2 z0 z1 z2 z3 z4 z5 fz hg
    go_wp2_with fail
    refine (Number_r g c w2 r2 (by omega)).mono ?_
    rintro e w3 ⟨rfl, r3, g3⟩
    have hz3 := hz2.grow g3 (by omega)
    have hB3 := bel_grow hB2 g3 (by omega)
    clear hz2 hB2 r2 g3
    go_wp2_with fail
    refine (Left_any g (nR c) w3 r3).mono ?_
    rintro e w4 ⟨rfl, rfl⟩
    go_wp2_with fail
    refine (Take_yes g (nR c) (nR c).length w4 r3 (by have := HL2.out; omega) (Nat.le_refl _)).mono ?_
    rintro e w5 ⟨rfl, r5, g5⟩
    rw [List.take_length]
    have hz5 := hz3.grow g5 (by omega)
    have hB5 := bel_grow hB3 g5 (by omega)
    clear hz3 hB3 r3 g5 r5
    go_wp2_with fail
    refine (jDecodeR_any (nR c) w5 HL2.out).mono ?_
    rintro e w6 ⟨rfl, hb6⟩
    rw [← HD.out, ← HO.out]
    obtain ⟨E, hE⟩ : ∃ E : Int, E = if ok = true then 0 else 4 := ⟨_, rfl⟩
    rw [← hE]
    have HE : Hid _ := hE
    clear hE
    have hz6 := hz5.below hb6 hz5.lt
    have hB6 := bel_call hb6 hB5
    clear hz5 hB5 hb6
    obtain ⟨de, df, dr, dv, dn⟩ := D
    obtain ⟨X, hX⟩ : ∃ X, X = w6.heap.size := ⟨_, rfl⟩
    obtain ⟨w7, hw7⟩ : ∃ w7, w7 = w6.alloc (.cells #[.int .i64 de, .bool df, .string (bstr dr), .string (bstr dv), .int .u64 (dn : Int)] 25) := ⟨_, rfl⟩
    have hb7 : Below w6.heap.size w6 w7 := by rw [hw7]; exact (Below.refl _ _).alloc (Nat.le_refl _) _
    have hx7 : RzB w7 X ⟨de, df, dr, dv, dn⟩ := by rw [hw7, hX]; exact heap_alloc_new w6 _
    have hz7 := hz6.below hb7 hz6.lt
    have hB7 := bel_call hb7 hB6
    have HW : Hid _ := hw7
    have HX : Hid _ := hX
    clear hw7 hb7 hz6 hB6
    go_upto_region 9 with fail
    rw [← HX.out]
    have HW2 := HW.out
    rw [← HW2]
    clear HW2 HW HX hX
    obtain ⟨x0, x1, x2, x3, x4⟩ := hx7.facts
    simp only at x0 x1 x2 x3 x4
    obtain ⟨Y, hY⟩ : ∃ Y, Y = w7.heap.size := ⟨_, rfl⟩
    obtain ⟨w8, hw8⟩ : ∃ w8, w8 = w7.alloc (.cells #[.int .u64 (nV c : Int), .int .i64 de, .bool df, .string (bstr dr), .string (bstr dv), .int .u64 (dn : Int)] 36) := ⟨_, rfl⟩
    have hb8 : Below w7.heap.size w7 w8 := by rw [hw8]; exact (Below.refl _ _).alloc (Nat.le_refl _) _
    have hy8 : AnB w8 Y (nV c) ⟨de, df, dr, dv, dn⟩ := by rw [hw8, hY]; exact heap_alloc_new w7 _
    have hz8 := hz7.below hb8 hz7.lt
    have hB8 := bel_call hb8 hB7
    have HW : Hid _ := hw8
    have HX : Hid _ := hY
    clear hw8 hb8 hz7 hB7 hx7
    go_upto_region 10 with fail
    rw [← HX.out]
    have HW2 := HW.out
    rw [← HW2]
    clear HW2 HW HX hY x0 x1 x2 x3 x4
    obtain ⟨x0, x1, x2, x3, x4, x5⟩ := hy8.facts
    obtain ⟨z0, z1, z2, z3, z4, z5⟩ := hz8.facts
    simp only at x0 x1 x2 x3 x4 x5 z0 z1 z2 z3 z4 z5
    have fz := hz8.frz
    go_wp2_with fail
    refine (jSeq_any (nV c) w8).mono ?_
    rintro e w9 ⟨rfl, rfl⟩
    rw [← HS.out]
    cases sq <;> cases ok
    case false.false | true.false =>
      obtain rfl : E = 4 := HE.out
      have e1 : rdOk c = false := HR.out
      have e2 := rd_no HC.out e1
      have E2 : Hid _ := e2
      clear e1 e2
      go_wp2
      exact ret_an2 (v := .int .i64 4) rfl rfl rfl (hz8.set 0 rz0) rfl ⟨E2.out.symm, bel_set6 hB8⟩
    case false.true =>
      obtain rfl : E = 0 := HE.out
      have e1 : rdOk c = false := HR.out
      have e2 := rd_no HC.out e1
      have E2 : Hid _ := e2
      clear e1 e2
      go_wp2
      exact ret_an2 (v := .int .i64 4) rfl rfl rfl (hz8.set 0 rz0) rfl ⟨E2.out.symm, bel_set6 hB8⟩
    case true.true =>
      obtain rfl : E = 0 := HE.out
      have e1 : rdOk c = true := HR.out
      have e2 : decR (nR c) = ⟨de, df, dr, dv, dn⟩ := by have := HD.out; rw [← HO.out, if_pos rfl] at this; exact this.symm
      have e3 := rd_yes HC.out e1
      rw [e2] at e3
      have E2 : Hid _ := e3
      clear e1 e2 e3
      go_wp2
      exact ret_an2 (v := .int .i64 0) rfl rfl rfl (hz8.set (nV c) ⟨de, df, dr, dv, dn⟩) rfl ⟨E2.out.symm, bel_set6 hB8⟩

end Go.Proofs.YtmgibkglbddlpaaDoor
