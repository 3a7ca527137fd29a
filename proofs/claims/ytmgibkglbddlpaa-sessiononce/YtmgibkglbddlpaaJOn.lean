/-
  The law SessionOnce, walked.
-/
import Derived.Test.YtmgibkglbddlpaaJOn1
namespace Go.Proofs.Ytmgibkglbddlpaa
open Go.RowKit Go.BigFrame
attribute [local go_sem] size_bstr toList_bstr

/-- Where the law stands. -/
def OWd (N : Nat) (wr : World) (d : Nat → Bool) (an : Nat → Nat) (top : Nat) (c : List UInt8) : Prop :=
  OSt d an top c ∧ ArB wr N 31 16 (dnV d) ∧ ArB wr (N + 1) 32 16 (ansV an)
theorem OWd.below {N : Nat} {wr wx : World} {d : Nat → Bool} {an : Nat → Nat} {top : Nat} {c : List UInt8} (h : OWd N wr d an top c) (hb : Below wr.heap.size wr wx) : OWd N wx d an top c :=
  ⟨h.1, h.2.1.keep (hb.block _ h.2.1.lt), h.2.2.keep (hb.block _ h.2.2.lt)⟩
theorem OWd.same {N : Nat} {wr wx : World} {d : Nat → Bool} {an : Nat → Nat} {top : Nat} {c : List UInt8} (h : OWd N wr d an top c) (e : wx.heap = wr.heap) : OWd N wx d an top c :=
  ⟨h.1, h.2.1.keep (by rw [e]), h.2.2.keep (by rw [e])⟩
theorem cell_bel {w w' : World} {a : Addr} {v : Value} (h : Below w.heap.size w w') (hc : w.cell? a = some v) : w'.cell? a = some v := cell_below h hc
theorem bel_drewN {w x : World} (h : Below w.heap.size w x) (n : Nat) : Below w.heap.size w (x.drewN n) := ⟨h.os, h.tape, h.output, h.size, h.block⟩

set_option maxHeartbeats 16000000 in
set_option maxRecDepth 100000 in
theorem SOnce_any (q : Option Addr) (b off cap : Nat) (l : List UInt8) (w : World) (hq : 0 < l.length → q = some ⟨b, off, none⟩ ∧ BRow w b off l) (hn : l.length ≤ 9223372036854775807) :
    Calls Try.prog 4 #[.slice q l.length cap] w fun x w' => x = .returned (.bool true) ∧ Below w.heap.size w w' := by
  obtain ⟨w1, hw1⟩ : ∃ w1, w1 = (w.alloc (.cells #[.bool false, .bool false, .bool false, .bool false, .bool false, .bool false, .bool false, .bool false, .bool false, .bool false, .bool false, .bool false, .bool false, .bool false, .bool false, .bool false] 31)).alloc (.cells #[.int .u64 0, .int .u64 0, .int .u64 0, .int .u64 0, .int .u64 0, .int .u64 0, .int .u64 0, .int .u64 0, .int .u64 0, .int .u64 0, .int .u64 0, .int .u64 0, .int .u64 0, .int .u64 0, .int .u64 0, .int .u64 0] 32) := ⟨_, rfl⟩
  have hB1 : Below w.heap.size w w1 := by rw [hw1]; exact bel_alloc (bel_alloc (Below.refl _ _))
  have hO1 : OWd w.heap.size w1 (fun _ => false) (fun _ => 0) 0 [] := by
    have e1 := heap_alloc_new w (.cells #[.bool false, .bool false, .bool false, .bool false, .bool false, .bool false, .bool false, .bool false, .bool false, .bool false, .bool false, .bool false, .bool false, .bool false, .bool false, .bool false] 31)
    have e2 := heap_alloc_new (w.alloc (.cells #[.bool false, .bool false, .bool false, .bool false, .bool false, .bool false, .bool false, .bool false, .bool false, .bool false, .bool false, .bool false, .bool false, .bool false, .bool false, .bool false] 31)) (.cells #[.int .u64 0, .int .u64 0, .int .u64 0, .int .u64 0, .int .u64 0, .int .u64 0, .int .u64 0, .int .u64 0, .int .u64 0, .int .u64 0, .int .u64 0, .int .u64 0, .int .u64 0, .int .u64 0, .int .u64 0, .int .u64 0] 32)
    rw [World.size_alloc] at e2
    refine ⟨OSt.start, ?_, ?_⟩
    · rw [hw1]
      exact (Below.heap_alloc _ _ _ (by simp)).trans e1
    · rw [hw1]
      exact e2
  have HW : Hid _ := hw1
  clear hw1
  go_enter Try.func4, Try.ntmps4
  go_upto_block 0 with fail
  rw [← HW.out]
  clear HW
  go_wp2
  go_loopw [3, 6, 7] (fun s3 s6 s7 wr => ∃ (i top : Nat) (c : List UInt8) (d : Nat → Bool) (an : Nat → Nat), s3 = .string (bstr c) ∧ s6 = .int .i64 (top : Int) ∧ s7 = .int .i64 (i : Int) ∧ i ≤ l.length ∧ i ≤ 60 ∧ Hid (OWd w.heap.size wr d an top c) ∧ Below w.heap.size w wr) (fun _ _ s7 _ => 61 - (intOf s7).toNat)
  case atStart => exact ⟨0, 0, [], _, _, rfl, rfl, rfl, by omega, by omega, hO1, hB1⟩
  case round =>
    obtain ⟨i, top, c, d, an, rfl, rfl, rfl, hil, hi60, HO, hbr⟩ := hrel
    by_cases hlt : i < l.length ∧ i < 60
    · obtain ⟨hl1, hl2⟩ := hlt
      obtain ⟨rfl, hrow⟩ := hq (by omega)
      have r0 := hrow i hl1
      have b0 : wr.cell? ⟨b, off + i, none⟩ = some (.int .u8 (l[i].toNat : Int)) := cell_bel hbr r0
      obtain ⟨x, hx⟩ : ∃ x, x = l[i].toNat := ⟨_, rfl⟩
      rw [← hx] at b0
      have hx256 : x < 256 := by rw [hx]; exact l[i].toNat_lt
      obtain ⟨n, hn_⟩ : ∃ n, n = x % 16 := ⟨_, rfl⟩
      have n1 : (x : Int) % 16 = (n : Int) := by omega
      have n2 : (x : Int).tmod 16 = (n : Int) := by rw [Int.tmod_eq_emod_of_nonneg (by omega)]; omega
      have hn16 : n < 16 := by omega
      have hi1 : (i : Int) < (l.length : Int) := by omega
      have hi2 : (i : Int) < 60 := by omega
      have hO := HO.out
      have ht16 := hO.1.t16
      have hcl := hO.1.len
      have hnz : (n : Int) < 16 := by omega
      have hN1 : Hid (n < 16) := hn16
      have hI1 : Hid (i < 60) := hl2
      clear r0 hx hx256 hn_ hrow
      rcases (show n + 1 < top ∨ n + 1 = top ∨ top ≤ n by omega) with hc | hc | hc
      · obtain ⟨l1, l2, l3⟩ := hO.1.stale hc
        have hlk : ∀ W, Calls Try.prog 9 #[.string (bstr c), .int .u64 ((n : Int) + 1)] W fun e w' => e = .returned (.tuple #[rzV rz0, .bool false, .int .i64 12]) ∧ Below W.heap.size W w' := by
          intro W
          have := jLook_any c (n + 1) W hcl
          rw [l1, l2, l3] at this
          exact this
        clear l1 l2 l3 hcl
        have hct : (n : Int) + 1 < (top : Int) := by omega
        have hct2 : (n : Int) < (top : Int) := by omega
        go_wp2_with fail
        refine (hlk wr).mono ?_
        rintro e w2 ⟨rfl, hb2⟩
        have hO2 := hO.below hb2
        have hB2 := bel_call hb2 hbr
        obtain ⟨w3, hw3⟩ : ∃ w3, w3 = w2.alloc (.cells #[.int .i64 0, .bool false, .string (bstr []), .string (bstr []), .int .u64 0] 25) := ⟨_, rfl⟩
        have hO3 : Hid (OWd w.heap.size w3 d an top c) := by rw [hw3]; exact hO2.below (bel_alloc (Below.refl _ _))
        have hB3 : Below w.heap.size w w3 := by rw [hw3]; exact bel_alloc hB2
        have HW : Hid _ := hw3
        clear hw3 hO2 hB2 hb2 hO HO hlk b0 hbr
        go_upto_region 10 with fail
        have HW2 := HW.out
        rw [← HW2]
        clear HW2 HW
        go_wp2
        go_roundw
        case rel => exact ⟨i + 1, top, c, d, an, rfl, rfl, by simp, by omega, by have := hI1.out; omega, hO3, hB3⟩
        case measure => simp [intOf]; omega
      · obtain ⟨l1, l2, l3, l4⟩ := hO.1.again hc
        have hlk : ∀ W, Calls Try.prog 9 #[.string (bstr c), .int .u64 ((n : Int) + 1)] W fun e w' => e = .returned (.tuple #[rzV (rzA (an n)), .bool true, .int .i64 0]) ∧ Below W.heap.size W w' := by
          intro W
          have := jLook_any c (n + 1) W hcl
          rw [l1, l2, l3] at this
          exact this
        clear l1 l2 l3 hcl
        subst hc
        have hct2 : (n : Int) < ((n + 1 : Nat) : Int) := by omega
        have hct3 : ((n + 1 : Nat) : Int) - 1 = (n : Int) := by omega
        have hct4 : (n : Int) + 1 - 1 = (n : Int) := by omega
        go_wp2_with fail
        refine (hlk wr).mono ?_
        rintro e w2 ⟨rfl, hb2⟩
        have hO2 := hO.below hb2
        have hB2 := bel_call hb2 hbr
        obtain ⟨w3, hw3⟩ : ∃ w3, w3 = w2.alloc (.cells #[.int .i64 0, .bool true, .string (bstr []), .string (bstr []), .int .u64 (an n : Int)] 25) := ⟨_, rfl⟩
        have hO3 : OWd w.heap.size w3 d an (n + 1) c := by rw [hw3]; exact hO2.below (bel_alloc (Below.refl _ _))
        have hB3 : Below w.heap.size w w3 := by rw [hw3]; exact bel_alloc hB2
        have hz3 : RzB w3 w2.heap.size (rzA (an n)) := by rw [hw3]; exact heap_alloc_new w2 _
        have HW : Hid _ := hw3
        have HO3 : Hid (OWd w.heap.size w3 d an (n + 1) c) := hO3
        clear hw3 hO2 hB2 hb2 hO HO hlk b0 hbr
        have e1 := hO3.2.1.cell hn16
        have e2 := hO3.2.2.cell hn16
        unfold dnV at e1
        unfold ansV at e2
        rw [l4] at e1
        clear hO3
        go_upto_region 10 with fail
        have HW2 := HW.out
        rw [← HW2]
        clear HW2 HW
        obtain ⟨z0, z1, z2, z3, z4⟩ := hz3.facts
        simp only at z0 z1 z2 z3 z4
        have hne : ∀ W : World, (binOp .neq 25 (.agg #[.int .i64 0, .bool true, .string ⟨#[]⟩, .string ⟨#[]⟩, .int .u64 (an n : Int)]) (.agg #[.int .i64 0, .bool true, .string ⟨#[]⟩, .string ⟨#[]⟩, .int .u64 (an n : Int)])).run Try.prog W = .ok (.bool false) W := by
          intro W
          have := rz_neq 0 true [] [] (an n) 0 true [] [] (an n) W
          rw [eqR_iff.2 rfl] at this
          exact this
        have hge := rz_guard
        replace z2 : w3.cell? ⟨w2.heap.size, 2, none⟩ = some (.string ⟨#[]⟩) := z2
        replace z3 : w3.cell? ⟨w2.heap.size, 3, none⟩ = some (.string ⟨#[]⟩) := z3
        go_upto_region 27 with fail
        go_quiet (fail)
        have HB : Hid (Below w.heap.size w (w3.drewN nq)) := bel_drewN hB3 nq
        have HOq : Hid (OWd w.heap.size (w3.drewN nq) d an (n + 1) c) := OWd.same HO3.out rfl
        clear e1 e2 z0 z1 z2 z3 z4 hz3 hne hge hB3
        generalize w3.drewN nq = wq at *
        go_wp2
        go_roundw
        case rel => exact ⟨i + 1, n + 1, c, d, an, rfl, by simp, by simp, by omega, by have := hI1.out; omega, HOq, HB.out⟩
        case measure => simp [intOf]; omega
      · obtain ⟨l1, l2, l3⟩ := hO.1.new hn16 hc
        have l4 := hO.1.non n hc
        have hlk : ∀ W, Calls Try.prog 9 #[.string (bstr c), .int .u64 ((n : Int) + 1)] W fun e w' => e = .returned (.tuple #[rzV rz0, .bool false, .int .i64 0]) ∧ Below W.heap.size W w' := by
          intro W
          have := jLook_any c (n + 1) W hcl
          rw [l1, l2, l3] at this
          exact this
        have hst := hO.1.step (n := n) (k := i + 1) hn16 hc (by omega)
        obtain ⟨p1, p2, p3⟩ := pt_small (q := n + 1) (r := rzA (i + 1)) (by omega) (by omega) (okR_rzA (by omega)) (by simp)
        have hpt : ∀ W, Calls Try.prog 6 #[.int .u64 ((n : Int) + 1), .agg #[.int .i64 0, .bool true, .string ⟨#[]⟩, .string ⟨#[]⟩, .int .u64 ((i : Int) + 1)]] W fun e w' => e = .returned (.tuple #[.string (bstr (ssL (n + 1) (rzA (i + 1)))), .int .i64 0]) ∧ Below W.heap.size W w' := by
          intro W
          have := jPut_any (n + 1) (rzA (i + 1)) W (by omega)
          rw [p1, p2] at this
          exact this
        have HST : Hid _ := hst
        have HPT : Hid _ := hpt
        clear l1 l2 l3 hcl hst hpt p1 p2 p3
        generalize ssL (n + 1) (rzA (i + 1)) = c2 at *
        have hct : (top : Int) < (n : Int) + 1 := by omega
        have hct2 : (top : Int) ≤ (n : Int) := by omega
        go_wp2_with fail
        refine (hlk wr).mono ?_
        rintro e w2 ⟨rfl, hb2⟩
        have hO2 := hO.below hb2
        have hB2 := bel_call hb2 hbr
        obtain ⟨w3, hw3⟩ : ∃ w3, w3 = w2.alloc (.cells #[.int .i64 0, .bool false, .string (bstr []), .string (bstr []), .int .u64 0] 25) := ⟨_, rfl⟩
        have hO3 : OWd w.heap.size w3 d an top c := by rw [hw3]; exact hO2.below (bel_alloc (Below.refl _ _))
        have hB3 : Below w.heap.size w w3 := by rw [hw3]; exact bel_alloc hB2
        have HW : Hid _ := hw3
        have HO3 : Hid (OWd w.heap.size w3 d an top c) := hO3
        clear hw3 hO2 hB2 hb2 hO HO hlk b0 hbr
        have e1 := hO3.2.1.cell hn16
        unfold dnV at e1
        rw [l4] at e1
        have f1 := hO3.2.1.frz
        clear hO3
        go_upto_region 10 with fail
        have HW2 := HW.out
        rw [← HW2]
        clear HW2 HW
        obtain ⟨w4, hw4⟩ : ∃ w4, w4 = w3.setCell ⟨w.heap.size, n, none⟩ (.bool true) := ⟨_, rfl⟩
        have hA4 : ArB w4 w.heap.size 31 16 (dnV (updN d n true)) := by rw [hw4, ← dnV_upd]; exact HO3.out.2.1.set n _
        have hN4 : ArB w4 (w.heap.size + 1) 32 16 (ansV an) := by rw [hw4]; exact HO3.out.2.2.keep (heap_set_other _ (by omega))
        have hB4 : Below w.heap.size w w4 := by rw [hw4]; exact bel_set hB3 (Nat.le_refl _)
        have HW : Hid _ := hw4
        clear hw4 hB3
        go_upto_region 15 with fail
        have HW2 := HW.out
        rw [← HW2]
        clear HW2 HW e1 f1
        have e2 := hN4.cell hn16
        have f2 := hN4.frz
        unfold ansV at e2
        obtain ⟨w5, hw5⟩ : ∃ w5, w5 = w4.setCell ⟨w.heap.size + 1, n, none⟩ (.int .u64 ((i : Int) + 1)) := ⟨_, rfl⟩
        have hA5 : ArB w5 w.heap.size 31 16 (dnV (updN d n true)) := by rw [hw5]; exact hA4.keep (heap_set_other _ (by omega))
        have hN5 : ArB w5 (w.heap.size + 1) 32 16 (ansV (updN an n (i + 1))) := by rw [hw5, ← ansV_upd]; exact hN4.set n _
        have hB5 : Below w.heap.size w w5 := by rw [hw5]; exact bel_set hB4 (Nat.le_succ _)
        have HW : Hid _ := hw5
        clear hw5 hB4 hA4
        go_upto_region 16 with fail
        have HW2 := HW.out
        rw [← HW2]
        clear HW2 HW e2 f2 hN4
        have e3 := hN5.cell hn16
        unfold ansV at e3
        rw [updN_self] at e3
        have e4 : w5.cell? ⟨w.heap.size + 1, n, none⟩ = some (.int .u64 ((i : Int) + 1)) := e3
        have hO5 : OWd w.heap.size w5 (updN d n true) (updN an n (i + 1)) (n + 1) c2 := ⟨HST.out, hA5, hN5⟩
        have HO5 : Hid (OWd w.heap.size w5 (updN d n true) (updN an n (i + 1)) (n + 1) c2) := hO5
        clear e3 hA5 hN5 hO5
        go_wp2_with fail
        refine (HPT.out w5).mono ?_
        rintro e w6 ⟨rfl, hb6⟩
        have hO6 : Hid (OWd w.heap.size w6 (updN d n true) (updN an n (i + 1)) (n + 1) c2) := OWd.below HO5.out hb6
        have hB6 := bel_call hb6 hB5
        clear hb6 hB5 e4
        go_wp2
        go_roundw
        case rel => exact ⟨i + 1, n + 1, c2, _, _, rfl, by simp, by simp, by omega, by have := hI1.out; omega, hO6, hB6⟩
        case measure => simp [intOf]; omega
    · have hend : ¬ ((i : Int) < (l.length : Int)) ∨ ((i : Int) < (l.length : Int) ∧ ¬ ((i : Int) < 60)) := by omega
      rcases hend with h1 | ⟨h1, h2⟩
      all_goals
        go_wp2_with fail
        refine (works17_any wr).mono ?_
        rintro e w9 ⟨rfl, hb9⟩
        have hfin := bel_call hb9 hbr
        go_wp2
        go_ret
        exact ⟨rfl, hfin⟩

end Go.Proofs.Ytmgibkglbddlpaa
