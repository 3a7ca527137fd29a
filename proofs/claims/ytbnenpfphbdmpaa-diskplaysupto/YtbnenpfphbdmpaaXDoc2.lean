/-
  The contracts of the document's Rename, Remove, Read.
-/
import Derived.Test.YtbnenpfphbdmpaaXDoc
namespace Go.Proofs.Ytbnenpfphbdmpaa
open Go.RowKit
attribute [local go_sem] size_bstr toList_bstr append_bstr

def reP (s : List UInt8) (P : List F3) : Int := if isP s P = true then 0 else 5
theorem SrtP.wto {P : List F3} (h : SrtP P) (s : List UInt8) : SrtP (wtoP s P) := List.Pairwise.filter _ h

set_option maxHeartbeats 2000000 in
set_option maxRecDepth 100000 in
theorem RRename_none (R cap : Nat) (q : Option Addr) (P : List F3) (s t : List UInt8) (w : World) (hP : FArg w q cap P) (hs : SrtP P) (hn : P.length ≤ 1000000) (hi : isP s P = false) :
    Calls Try.prog 29 #[rdV R q P.length cap, .string (bstr s), .string (bstr t)] w fun e w' => RA w w' e R (P) 5 := by
  obtain ⟨hb0, b0, b1⟩ := two_blocks w R q P.length cap
  have hT : Two w _ R q P.length cap := ⟨hb0, b0, b1⟩
  have hP0 := hP.below hb0
  clear b0 b1
  go_enter Try.func29, Try.ntmps29
  go_wp2_with fail
  generalize (w.alloc (.cells #[.int .i64 (R : Int), .slice q P.length cap] 27)).alloc (.cells #[.int .i64 0, .slice none 0 0] 27) = W at *
  refine (ROf_any R cap q P s _ hP0 hs hn).mono ?_
  rintro e w1 ⟨rfl, hbw1⟩
  rw [hi]
  generalize hof : ofP s P = f at *
  obtain ⟨nm, bs, sy⟩ := f
  have HOF : Hid _ := hof
  clear hof
  have halw1 := (Below.refl w1.heap.size w1).alloc (Nat.le_refl _) (.cells #[.string (bstr nm), .string (bstr bs), .int .i64 (sy : Int)] 35 (0, 0))
  have hT1 := (hT.step hbw1).step halw1
  have hP1 := (hP0.below hbw1).below halw1
  obtain ⟨c0, c1, g0, g1, d0, d1⟩ := hT1.facts
  obtain ⟨r0, r1, HR⟩ := hT1.fin hP1 5
  go_wp2_with fail
  go_wp2
  refine bodyPost_ret (v := .tuple #[rdV R q P.length cap, .int .i64 5]) ?_ ?_ ?_
  · simp [results, Try.results29, go_sem, r0, r1]
  · rfl
  · exact HR.out

set_option maxHeartbeats 2000000 in
set_option maxRecDepth 100000 in
theorem RRename_arg (R cap : Nat) (q : Option Addr) (P : List F3) (s t : List UInt8) (w : World) (hP : FArg w q cap P) (hs : SrtP P) (hn : P.length ≤ 1000000) (hi : isP s P = true) (hl : t.length ≤ 9223372036854775807) (hok : decide (1 ≤ t.length ∧ t.length ≤ 64) = false) :
    Calls Try.prog 29 #[rdV R q P.length cap, .string (bstr s), .string (bstr t)] w fun e w' => RA w w' e R (P) 2 := by
  obtain ⟨hb0, b0, b1⟩ := two_blocks w R q P.length cap
  have hT : Two w _ R q P.length cap := ⟨hb0, b0, b1⟩
  have hP0 := hP.below hb0
  clear b0 b1
  go_enter Try.func29, Try.ntmps29
  go_wp2_with fail
  generalize (w.alloc (.cells #[.int .i64 (R : Int), .slice q P.length cap] 27)).alloc (.cells #[.int .i64 0, .slice none 0 0] 27) = W at *
  refine (ROf_any R cap q P s _ hP0 hs hn).mono ?_
  rintro e w1 ⟨rfl, hbw1⟩
  rw [hi]
  generalize hof : ofP s P = f at *
  obtain ⟨nm, bs, sy⟩ := f
  have HOF : Hid _ := hof
  clear hof
  have halw1 := (Below.refl w1.heap.size w1).alloc (Nat.le_refl _) (.cells #[.string (bstr nm), .string (bstr bs), .int .i64 (sy : Int)] 35 (0, 0))
  have hT1 := (hT.step hbw1).step halw1
  have hP1 := (hP0.below hbw1).below halw1
  obtain ⟨c0, c1, g0, g1, d0, d1⟩ := hT1.facts
  go_wp2_with fail
  generalize w1.alloc (.cells #[.string (bstr nm), .string (bstr bs), .int .i64 (sy : Int)] 35) = V at *
  refine (Rname_any t _ hl).mono ?_
  rintro e _ ⟨rfl, rfl⟩
  rw [hok]
  clear c0 c1 g0 g1 d0 d1
  obtain ⟨c0, c1, g0, g1, d0, d1⟩ := hT1.facts
  obtain ⟨r0, r1, HR⟩ := hT1.fin hP1 2
  go_wp2_with fail
  go_wp2
  refine bodyPost_ret (v := .tuple #[rdV R q P.length cap, .int .i64 2]) ?_ ?_ ?_
  · simp [results, Try.results29, go_sem, r0, r1]
  · rfl
  · exact HR.out

set_option maxHeartbeats 2000000 in
set_option maxRecDepth 100000 in
theorem RRename_ok (R cap : Nat) (q : Option Addr) (P : List F3) (s t : List UInt8) (w : World) (hP : FArg w q cap P) (hs : SrtP P) (hn : P.length ≤ 1000000) (hi : isP s P = true) (hl : t.length ≤ 9223372036854775807) (hok : decide (1 ≤ t.length ∧ t.length ≤ 64) = true) :
    Calls Try.prog 29 #[rdV R q P.length cap, .string (bstr s), .string (bstr t)] w fun e w' => RA w w' e R (wthP (t, (ofP s P).2.1, (ofP s P).2.2) (wtoP s P)) 0 := by
  obtain ⟨hb0, b0, b1⟩ := two_blocks w R q P.length cap
  have hT : Two w _ R q P.length cap := ⟨hb0, b0, b1⟩
  have hP0 := hP.below hb0
  clear b0 b1
  go_enter Try.func29, Try.ntmps29
  go_wp2_with fail
  generalize (w.alloc (.cells #[.int .i64 (R : Int), .slice q P.length cap] 27)).alloc (.cells #[.int .i64 0, .slice none 0 0] 27) = W at *
  refine (ROf_any R cap q P s _ hP0 hs hn).mono ?_
  rintro e w1 ⟨rfl, hbw1⟩
  rw [hi]
  generalize hof : ofP s P = f at *
  obtain ⟨nm, bs, sy⟩ := f
  have HOF : Hid _ := hof
  clear hof
  have halw1 := (Below.refl w1.heap.size w1).alloc (Nat.le_refl _) (.cells #[.string (bstr nm), .string (bstr bs), .int .i64 (sy : Int)] 35 (0, 0))
  have hbxw1 := heap_alloc_new w1 (.cells #[.string (bstr nm), .string (bstr bs), .int .i64 (sy : Int)] 35 (0, 0))
  have hT1 := (hT.step hbw1).step halw1
  have hP1 := (hP0.below hbw1).below halw1
  have f1 := (cells_block hbxw1).1 1
  have f2 := (cells_block hbxw1).1 2
  obtain ⟨c0, c1, g0, g1, d0, d1⟩ := hT1.facts
  go_wp2_with fail
  have hsz : w1.heap.size < (w1.alloc (.cells #[.string (bstr nm), .string (bstr bs), .int .i64 (sy : Int)] 35)).heap.size := by simp
  generalize w1.alloc (.cells #[.string (bstr nm), .string (bstr bs), .int .i64 (sy : Int)] 35) = V at *
  refine (Rname_any t _ hl).mono ?_
  rintro e V2 ⟨rfl, hV2⟩
  subst V2
  rw [hok]
  go_wp2_with fail
  have hD1 : Below V.heap.size V V.drew := (Below.refl _ _).drew
  have hwo := Rwithout_any R cap q P s V.drew (hP1.below hD1) hn
  have hs2 := hs.wto s
  have hn2 := Nat.le_trans (wtoP_len s P) hn
  generalize hP2 : wtoP s P = P2 at *
  have HP2 : Hid _ := hP2
  clear hP2
  have hne : w1.heap.size ≠ w.heap.size + 1 := fun he => by
    have := (Array.getElem?_eq_some_iff.1 (hT.step hbw1).b1).1
    omega
  have hwi := fun (q2 : Option Addr) (cap2 : Nat) (w2 : World) (hF2 : FArg w2 q2 cap2 P2) => Rwith_any R cap2 q2 P2 (t, bs, sy) w2 hF2 hs2 hn2
  generalize hwp : wthP (t, bs, sy) P2 = P' at *
  have HWP : Hid _ := hwp
  clear hwp
  go_region_held3 (fun w' => w'.cell? ⟨w.heap.size, 0, none⟩ = some (.int .i64 (R : Int)) ∧ w'.cell? ⟨w.heap.size, 1, none⟩ = some (.slice q P.length cap) ∧ w'.cell? ⟨w1.heap.size, 1, none⟩ = some (.string (bstr bs)) ∧ w'.cell? ⟨w1.heap.size, 2, none⟩ = some (.int .i64 (sy : Int))) (first | with_reducible exact ⟨c0, c1, f1, f2⟩ | with_reducible exact ⟨e0, e1, e2, e3⟩ | go_keep)
    (first
      | (go_at_call 44; refine hwo.mono ?_; rintro e w2 ⟨q2, cap2, rfl, hF2, hb2⟩; have hT2 := (hT1.step hD1).step hb2; have k1 := (World.cell?_of_block (a := ⟨w1.heap.size, 1, none⟩) (hb2.block _ hsz)).trans f1; have k2 := (World.cell?_of_block (a := ⟨w1.heap.size, 2, none⟩) (hb2.block _ hsz)).trans f2; clear c0 c1 g0 g1 d0 d1 f1 f2; obtain ⟨c0, c1, g0, g1, d0, d1⟩ := hT2.facts; have f1 := k1; have f2 := k2; clear k1 k2)
      | (go_at_call 43; refine (hwi q2 cap2 w2 hF2).mono ?_; rintro e w3 ⟨q', cap', rfl, hF, hb3⟩; have hT3 := hT2.step hb3; have k1 := (World.cell?_of_block (a := ⟨w1.heap.size, 1, none⟩) (hb3.block _ (Nat.lt_of_lt_of_le hsz hb2.size))).trans f1; have k2 := (World.cell?_of_block (a := ⟨w1.heap.size, 2, none⟩) (hb3.block _ (Nat.lt_of_lt_of_le hsz hb2.size))).trans f2; clear c0 c1 g0 g1 d0 d1 f1 f2; obtain ⟨c0, c1, g0, g1, d0, d1⟩ := hT3.facts; have f1 := k1; have f2 := k2; clear k1 k2; obtain ⟨r0, r1, HR⟩ := hT3.fin hF 0; generalize P'.length = nl at *; have e0 : ((w3.setCell ⟨w.heap.size + 1, 0, none⟩ (.int .i64 (R : Int))).setCell ⟨w.heap.size + 1, 1, none⟩ (.slice q' nl cap')).cell? ⟨w.heap.size, 0, none⟩ = some (.int .i64 (R : Int)) := (by rw [set_far _ (by omega), set_far _ (by omega)]; exact c0); have e1 : ((w3.setCell ⟨w.heap.size + 1, 0, none⟩ (.int .i64 (R : Int))).setCell ⟨w.heap.size + 1, 1, none⟩ (.slice q' nl cap')).cell? ⟨w.heap.size, 1, none⟩ = some (.slice q P.length cap) := (by rw [set_far _ (by omega), set_far _ (by omega)]; exact c1); have e2 : ((w3.setCell ⟨w.heap.size + 1, 0, none⟩ (.int .i64 (R : Int))).setCell ⟨w.heap.size + 1, 1, none⟩ (.slice q' nl cap')).cell? ⟨w1.heap.size, 1, none⟩ = some (.string (bstr bs)) := (by rw [set_far _ hne, set_far _ hne]; exact f1); have e3 : ((w3.setCell ⟨w.heap.size + 1, 0, none⟩ (.int .i64 (R : Int))).setCell ⟨w.heap.size + 1, 1, none⟩ (.slice q' nl cap')).cell? ⟨w1.heap.size, 2, none⟩ = some (.int .i64 (sy : Int)) := (by rw [set_far _ hne, set_far _ hne]; exact f2)))
  go_wp2
  refine bodyPost_ret (v := .tuple #[rdV R q' nl cap', .int .i64 0]) ?_ ?_ ?_
  · simp [results, Try.results29, go_sem, r0, r1]
  · rfl
  · rw [HOF.out, HP2.out]
    simp only
    rw [HWP.out]
    exact HR.out

set_option maxHeartbeats 2000000 in
set_option maxRecDepth 100000 in
theorem RRemove_none (R cap : Nat) (q : Option Addr) (P : List F3) (s : List UInt8) (w : World) (hP : FArg w q cap P) (hs : SrtP P) (hn : P.length ≤ 1000000) (hi : isP s P = false) :
    Calls Try.prog 30 #[rdV R q P.length cap, .string (bstr s)] w fun e w' => RA w w' e R (P) 5 := by
  obtain ⟨hb0, b0, b1⟩ := two_blocks w R q P.length cap
  have hT : Two w _ R q P.length cap := ⟨hb0, b0, b1⟩
  have hP0 := hP.below hb0
  clear b0 b1
  go_enter Try.func30, Try.ntmps30
  go_wp2_with fail
  generalize (w.alloc (.cells #[.int .i64 (R : Int), .slice q P.length cap] 27)).alloc (.cells #[.int .i64 0, .slice none 0 0] 27) = W at *
  refine (ROf_any R cap q P s _ hP0 hs hn).mono ?_
  rintro e w1 ⟨rfl, hbw1⟩
  rw [hi]
  generalize ofP s P = f at *
  obtain ⟨nm, bs, sy⟩ := f
  have halw1 := (Below.refl w1.heap.size w1).alloc (Nat.le_refl _) (.cells #[.string (bstr nm), .string (bstr bs), .int .i64 (sy : Int)] 35 (0, 0))
  have hT1 := (hT.step hbw1).step halw1
  have hP1 := (hP0.below hbw1).below halw1
  obtain ⟨c0, c1, g0, g1, d0, d1⟩ := hT1.facts
  obtain ⟨r0, r1, HR⟩ := hT1.fin hP1 5
  go_wp2_with fail
  go_wp2
  refine bodyPost_ret (v := .tuple #[rdV R q P.length cap, .int .i64 5]) ?_ ?_ ?_
  · simp [results, Try.results30, go_sem, r0, r1]
  · rfl
  · exact HR.out

set_option maxHeartbeats 2000000 in
set_option maxRecDepth 100000 in
theorem RRemove_ok (R cap : Nat) (q : Option Addr) (P : List F3) (s : List UInt8) (w : World) (hP : FArg w q cap P) (hs : SrtP P) (hn : P.length ≤ 1000000) (hi : isP s P = true) :
    Calls Try.prog 30 #[rdV R q P.length cap, .string (bstr s)] w fun e w' => RA w w' e R (wtoP s P) 0 := by
  obtain ⟨hb0, b0, b1⟩ := two_blocks w R q P.length cap
  have hT : Two w _ R q P.length cap := ⟨hb0, b0, b1⟩
  have hP0 := hP.below hb0
  clear b0 b1
  go_enter Try.func30, Try.ntmps30
  go_wp2_with fail
  generalize (w.alloc (.cells #[.int .i64 (R : Int), .slice q P.length cap] 27)).alloc (.cells #[.int .i64 0, .slice none 0 0] 27) = W at *
  refine (ROf_any R cap q P s _ hP0 hs hn).mono ?_
  rintro e w1 ⟨rfl, hbw1⟩
  rw [hi]
  generalize ofP s P = f at *
  obtain ⟨nm, bs, sy⟩ := f
  have halw1 := (Below.refl w1.heap.size w1).alloc (Nat.le_refl _) (.cells #[.string (bstr nm), .string (bstr bs), .int .i64 (sy : Int)] 35 (0, 0))
  have hT1 := (hT.step hbw1).step halw1
  have hP1 := (hP0.below hbw1).below halw1
  obtain ⟨c0, c1, g0, g1, d0, d1⟩ := hT1.facts
  go_wp2_with fail
  generalize w1.alloc (.cells #[.string (bstr nm), .string (bstr bs), .int .i64 (sy : Int)] 35) = V at *
  refine (Rwithout_any R cap q P s _ hP1 hn).mono ?_
  rintro e w2 ⟨q', cap', rfl, hF, hb2⟩
  have hT2 := hT1.step hb2
  clear c0 c1 g0 g1 d0 d1
  obtain ⟨c0, c1, g0, g1, d0, d1⟩ := hT2.facts
  obtain ⟨r0, r1, HR⟩ := hT2.fin hF 0
  generalize (wtoP s P).length = nl at *
  go_wp2
  refine bodyPost_ret (v := .tuple #[rdV R q' nl cap', .int .i64 0]) ?_ ?_ ?_
  · simp [results, Try.results30, go_sem, r0, r1]
  · rfl
  · exact HR.out

set_option maxHeartbeats 2000000 in
set_option maxRecDepth 100000 in
theorem RRead_any (R cap : Nat) (q : Option Addr) (P : List F3) (s : List UInt8) (w : World) (hP : FArg w q cap P) (hs : SrtP P) (hn : P.length ≤ 1000000) :
    Calls Try.prog 28 #[rdV R q P.length cap, .string (bstr s)] w fun e w' => e = .returned (.tuple #[.string (bstr (ofP s P).2.1), .int .i64 (reP s P)]) ∧ Below w.heap.size w w' := by
  have hb0 : Below w.heap.size w (w.alloc (.cells #[.int .i64 (R : Int), .slice q P.length cap] 27)) := (Below.refl _ _).alloc (Nat.le_refl _) _
  have hP0 := hP.below hb0
  go_enter Try.func28, Try.ntmps28
  go_wp2_with fail
  generalize w.alloc (.cells #[.int .i64 (R : Int), .slice q P.length cap] 27) = W at *
  refine (ROf_any R cap q P s _ hP0 hs hn).mono ?_
  rintro e w1 ⟨rfl, hb1⟩
  generalize hof : ofP s P = f at *
  obtain ⟨nm, bs, sy⟩ := f
  have HOF : Hid _ := hof
  clear hof
  have hbx := heap_alloc_new w1 (.cells #[.string (bstr nm), .string (bstr bs), .int .i64 (sy : Int)] 35 (0, 0))
  have f1 := (cells_block hbx).1 1
  have hbw := (b_step hb0 hb1 (Nat.le_refl _)).alloc (Nat.le_trans hb0.size hb1.size) (.cells #[.string (bstr nm), .string (bstr bs), .int .i64 (sy : Int)] 35)
  generalize hisn : isP s P = is at *
  have HIS : Hid _ := hisn
  clear hisn
  cases is with
  | false =>
    go_wp2_with fail
    go_wp2
    go_ret2
    refine ⟨?_, hbw⟩
    have h1 := ofP_none HIS.out
    rw [reP, HIS.out, h1]
    rfl
  | true =>
    go_wp2_with fail
    go_wp2
    go_ret2
    refine ⟨?_, hbw⟩
    rw [reP, HIS.out, HOF.out]
    rfl

end Go.Proofs.Ytbnenpfphbdmpaa
