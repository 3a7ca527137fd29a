/-
  The contracts of the document's Append, Sync, Read, Rename, Remove.
  The contracts of the document's Rename, Remove, Read.
  The contracts of the document's Crash, List, Same.
  The program's files and the document's: the same, step by step.
  What the program answers to a step, and what the document does: the same.
-/
import Derived.Test.YtpldfakfgngaaaaGreatDoorGFl
namespace Go.Proofs.YtpldfakfgngaaaaGreatDoor
open Go.RowKit
attribute [local go_sem] size_bstr toList_bstr append_bstr

/-- What a call that answers a disk and a number leaves. -/
structure RA (w w' : World) (e : Ending) (R : Nat) (P : List F3) (x : Int) : Prop where
  out : ∃ q cap, e = .returned (.tuple #[rdV R q P.length cap, .int .i64 x]) ∧ FArg w' q cap P
  bel : Below w.heap.size w w'
/-- Two blocks that a call makes for its disk and its answer. -/
theorem two_blocks (w : World) (R : Nat) (q : Option Addr) (n cap : Nat) :
    Below w.heap.size w ((w.alloc (.cells #[.int .i64 (R : Int), .slice q n cap] 29)).alloc (.cells #[.int .i64 0, .slice none 0 0] 29)) ∧
    ((w.alloc (.cells #[.int .i64 (R : Int), .slice q n cap] 29)).alloc (.cells #[.int .i64 0, .slice none 0 0] 29)).heap[w.heap.size]? = some (.cells #[.int .i64 (R : Int), .slice q n cap] 29 (0, 0)) ∧
    ((w.alloc (.cells #[.int .i64 (R : Int), .slice q n cap] 29)).alloc (.cells #[.int .i64 0, .slice none 0 0] 29)).heap[w.heap.size + 1]? = some (.cells #[.int .i64 0, .slice none 0 0] 29 (0, 0)) :=
  ⟨((Below.refl _ _).alloc (Nat.le_refl _) _).alloc (by simp) _, ((MapKept.heap_alloc _ _).2 w.heap.size (by simp)).trans (boxed w _ _ _), by
    have := heap_alloc_new (w.alloc (.cells #[.int .i64 (R : Int), .slice q n cap] 29)) (.cells #[.int .i64 0, .slice none 0 0] 29 (0, 0))
    simpa using this⟩

/-- Where the files lie is none of the two blocks: these hold no text ahead. -/
theorem farg_apart {W : World} {q : Option Addr} {cap : Nat} {P : List F3} (h : FArg W q cap P) {g : Nat} {cs : Array Value} (hg : W.heap[g]? = some (.cells cs 29 (0, 0))) (x y : Value) : FArg (set2 W g x y) q cap P :=
  h.set2 (fun b off hq he => by
    subst he
    rcases h.or_ with ⟨h1, _⟩ | ⟨b', off', h1, ⟨cur, h2⟩, _⟩
    · rw [hq] at h1; cases h1
    · rw [hq] at h1
      cases h1
      rw [hg] at h2
      injection h2 with h2
      injection h2 with _ h2
      exact absurd h2 (by decide)) x y
structure Two (w W : World) (R : Nat) (q : Option Addr) (n cap : Nat) : Prop where
  bel : Below w.heap.size w W
  b0 : W.heap[w.heap.size]? = some (.cells #[.int .i64 (R : Int), .slice q n cap] 29 (0, 0))
  b1 : W.heap[w.heap.size + 1]? = some (.cells #[.int .i64 0, .slice none 0 0] 29 (0, 0))
theorem Two.step {w W W' : World} {R : Nat} {q : Option Addr} {n cap : Nat} (h : Two w W R q n cap) (hb : Below W.heap.size W W') : Two w W' R q n cap :=
  ⟨b_step h.bel hb (Nat.le_refl _), (hb.block _ (Array.getElem?_eq_some_iff.1 h.b0).1).trans h.b0, (hb.block _ (Array.getElem?_eq_some_iff.1 h.b1).1).trans h.b1⟩
theorem Two.facts {w W : World} {R : Nat} {q : Option Addr} {n cap : Nat} (h : Two w W R q n cap) : W.cell? ⟨w.heap.size, 0, none⟩ = some (.int .i64 (R : Int)) ∧ W.cell? ⟨w.heap.size, 1, none⟩ = some (.slice q n cap) ∧ W.cell? ⟨w.heap.size + 1, 0, none⟩ = some (.int .i64 0) ∧ W.cell? ⟨w.heap.size + 1, 1, none⟩ = some (.slice none 0 0) ∧ W.frozen? ⟨w.heap.size + 1, 0, none⟩ = false ∧ W.frozen? ⟨w.heap.size + 1, 1, none⟩ = false :=
  ⟨(cells_block h.b0).1 0, (cells_block h.b0).1 1, (cells_block h.b1).1 0, (cells_block h.b1).1 1, (cells_block h.b1).2 0, (cells_block h.b1).2 1⟩
theorem Two.fin {w W : World} {R : Nat} {q : Option Addr} {n cap : Nat} (h : Two w W R q n cap) {q' : Option Addr} {cap' : Nat} {P' : List F3} (hF : FArg W q' cap' P') (x : Int) :
    (set2 W (w.heap.size + 1) (.int .i64 (R : Int)) (.slice q' P'.length cap')).cell? ⟨w.heap.size + 1, 0, none⟩ = some (.int .i64 (R : Int)) ∧ (set2 W (w.heap.size + 1) (.int .i64 (R : Int)) (.slice q' P'.length cap')).cell? ⟨w.heap.size + 1, 1, none⟩ = some (.slice q' P'.length cap') ∧
    Hid (RA w (set2 W (w.heap.size + 1) (.int .i64 (R : Int)) (.slice q' P'.length cap')) (.returned (.tuple #[rdV R q' P'.length cap', .int .i64 x])) R P' x) := by
  have hz := cells_block (set2_block h.b1 (.int .i64 (R : Int)) (.slice q' P'.length cap'))
  exact ⟨hz.1 0, hz.1 1, ⟨⟨q', cap', rfl, farg_apart hF h.b1 _ _⟩, set2_below h.bel (Nat.le_succ _) _ _⟩⟩

set_option maxHeartbeats 2000000 in
set_option maxRecDepth 100000 in
theorem RAppend_arg (R cap : Nat) (q : Option Addr) (P : List F3) (s t : List UInt8) (w : World) (hP : FArg w q cap P) (hl : s.length ≤ 9223372036854775807) (hok : decide (1 ≤ s.length ∧ s.length ≤ 64) = false) :
    Calls Tryz.prog 36 #[rdV R q P.length cap, .string (bstr s), .string (bstr t)] w fun e w' => RA w w' e R (P) 2 := by
  obtain ⟨hb0, b0, b1⟩ := two_blocks w R q P.length cap
  have hT : Two w _ R q P.length cap := ⟨hb0, b0, b1⟩
  have hP0 := hP.below hb0
  clear b0 b1
  go_enter Tryz.func36, Tryz.ntmps36
  go_wp2_with fail
  generalize (w.alloc (.cells #[.int .i64 (R : Int), .slice q P.length cap] 29)).alloc (.cells #[.int .i64 0, .slice none 0 0] 29) = W at *
  refine (Rname_any s _ hl).mono ?_
  rintro e _ ⟨rfl, rfl⟩
  rw [hok]
  obtain ⟨c0, c1, g0, g1, d0, d1⟩ := hT.facts
  obtain ⟨r0, r1, HR⟩ := hT.fin hP0 2
  go_wp2_with fail
  go_wp2
  refine bodyPost_ret (v := .tuple #[rdV R q P.length cap, .int .i64 2]) ?_ ?_ ?_
  · simp [results, Tryz.results36, go_sem, r0, r1]
  · rfl
  · exact HR.out

set_option maxHeartbeats 2000000 in
set_option maxRecDepth 100000 in
theorem RAppend_full (R cap : Nat) (q : Option Addr) (P : List F3) (s t : List UInt8) (w : World) (hP : FArg w q cap P) (hn : P.length ≤ 1000000) (hl : s.length ≤ 9223372036854775807) (hok : decide (1 ≤ s.length ∧ s.length ≤ 64) = true) (hR : R ≤ 9223372036854775807) (ht : totP P ≤ R) (hf : ((R - totP P : Nat) : Int) < (t.length : Int)) :
    Calls Tryz.prog 36 #[rdV R q P.length cap, .string (bstr s), .string (bstr t)] w fun e w' => RA w w' e R (P) 7 := by
  obtain ⟨hb0, b0, b1⟩ := two_blocks w R q P.length cap
  have hT : Two w _ R q P.length cap := ⟨hb0, b0, b1⟩
  have hP0 := hP.below hb0
  clear b0 b1
  go_enter Tryz.func36, Tryz.ntmps36
  go_wp2_with fail
  generalize (w.alloc (.cells #[.int .i64 (R : Int), .slice q P.length cap] 29)).alloc (.cells #[.int .i64 0, .slice none 0 0] 29) = W at *
  refine (Rname_any s _ hl).mono ?_
  rintro e _ ⟨rfl, rfl⟩
  rw [hok]
  obtain ⟨c0, c1, g0, g1, d0, d1⟩ := hT.facts
  go_wp2_with fail
  refine (RFree_any R cap q P _ hP0 hn hR ht).mono ?_
  rintro e w2 ⟨rfl, hb2⟩
  have hT2 := hT.step hb2
  have hP2 := hP0.below hb2
  generalize R - totP P = fr at *
  clear c0 c1 g0 g1 d0 d1
  obtain ⟨c0, c1, g0, g1, d0, d1⟩ := hT2.facts
  obtain ⟨r0, r1, HR⟩ := hT2.fin hP2 7
  go_wp2_with fail
  go_wp2
  refine bodyPost_ret (v := .tuple #[rdV R q P.length cap, .int .i64 7]) ?_ ?_ ?_
  · simp [results, Tryz.results36, go_sem, r0, r1]
  · rfl
  · exact HR.out

set_option maxHeartbeats 2000000 in
set_option maxRecDepth 100000 in
theorem RAppend_ok (R cap : Nat) (q : Option Addr) (P : List F3) (s t : List UInt8) (w : World) (hP : FArg w q cap P) (hs : SrtP P) (hn : P.length ≤ 1000000) (hl : s.length ≤ 9223372036854775807) (hok : decide (1 ≤ s.length ∧ s.length ≤ 64) = true) (hR : R ≤ 9223372036854775807) (ht : totP P ≤ R) (hf : ¬ ((R - totP P : Nat) : Int) < (t.length : Int)) (hc : (ofP s P).2.1.length + t.length ≤ 9223372036854775807) :
    Calls Tryz.prog 36 #[rdV R q P.length cap, .string (bstr s), .string (bstr t)] w fun e w' => RA w w' e R (wthP (s, (ofP s P).2.1 ++ t, (ofP s P).2.2) P) 0 := by
  obtain ⟨hb0, b0, b1⟩ := two_blocks w R q P.length cap
  have hT : Two w _ R q P.length cap := ⟨hb0, b0, b1⟩
  have hP0 := hP.below hb0
  clear b0 b1
  go_enter Tryz.func36, Tryz.ntmps36
  go_wp2_with fail
  generalize (w.alloc (.cells #[.int .i64 (R : Int), .slice q P.length cap] 29)).alloc (.cells #[.int .i64 0, .slice none 0 0] 29) = W at *
  refine (Rname_any s _ hl).mono ?_
  rintro e _ ⟨rfl, rfl⟩
  rw [hok]
  obtain ⟨c0, c1, g0, g1, d0, d1⟩ := hT.facts
  go_wp2_with fail
  refine (RFree_any R cap q P _ hP0 hn hR ht).mono ?_
  rintro e w2 ⟨rfl, hb2⟩
  have hT2 := hT.step hb2
  have hP2 := hP0.below hb2
  generalize R - totP P = fr at *
  clear c0 c1 g0 g1 d0 d1
  obtain ⟨c0, c1, g0, g1, d0, d1⟩ := hT2.facts
  go_wp2_with fail
  refine (ROf_any R cap q P s _ hP2 hs hn).mono ?_
  rintro e w1 ⟨rfl, hbw1⟩
  generalize hof : ofP s P = f at *
  obtain ⟨nm, bs, sy⟩ := f
  have HOF : Hid _ := hof
  clear hof
  have halw1 := (Below.refl w1.heap.size w1).alloc (Nat.le_refl _) (.cells #[.string (bstr nm), .string (bstr bs), .int .i64 (sy : Int)] 95 (0, 0))
  have hbxw1 := heap_alloc_new w1 (.cells #[.string (bstr nm), .string (bstr bs), .int .i64 (sy : Int)] 95 (0, 0))
  have hT3 := (hT2.step hbw1).step halw1
  have hP3 := (hP2.below hbw1).below halw1
  have f1 := (cells_block hbxw1).1 1
  have f2 := (cells_block hbxw1).1 2
  clear c0 c1 g0 g1 d0 d1
  obtain ⟨c0, c1, g0, g1, d0, d1⟩ := hT3.facts
  go_wp2_with fail
  generalize w1.alloc (.cells #[.string (bstr nm), .string (bstr bs), .int .i64 (sy : Int)] 95) = V at *
  refine (Rwith_any R cap q P (s, bs ++ t, sy) _ hP3 hs hn).mono ?_
  rintro e w3 ⟨q', cap', rfl, hF, hb3⟩
  have hT4 := hT3.step hb3
  clear c0 c1 g0 g1 d0 d1
  obtain ⟨c0, c1, g0, g1, d0, d1⟩ := hT4.facts
  obtain ⟨r0, r1, HR⟩ := hT4.fin hF 0
  generalize hwp : wthP (s, bs ++ t, sy) P = P' at *
  have HWP : Hid _ := hwp
  clear hwp
  generalize P'.length = nl at *
  go_wp2
  refine bodyPost_ret (v := .tuple #[rdV R q' nl cap', .int .i64 0]) ?_ ?_ ?_
  · simp [results, Tryz.results36, go_sem, r0, r1]
  · rfl
  · rw [HOF.out]
    simp only
    rw [HWP.out]
    exact HR.out

set_option maxHeartbeats 2000000 in
set_option maxRecDepth 100000 in
theorem RSync_none (R cap : Nat) (q : Option Addr) (P : List F3) (s : List UInt8) (w : World) (hP : FArg w q cap P) (hs : SrtP P) (hn : P.length ≤ 1000000) (hi : isP s P = false) :
    Calls Tryz.prog 57 #[rdV R q P.length cap, .string (bstr s)] w fun e w' => RA w w' e R (P) 5 := by
  obtain ⟨hb0, b0, b1⟩ := two_blocks w R q P.length cap
  have hT : Two w _ R q P.length cap := ⟨hb0, b0, b1⟩
  have hP0 := hP.below hb0
  clear b0 b1
  go_enter Tryz.func57, Tryz.ntmps57
  go_wp2_with fail
  generalize (w.alloc (.cells #[.int .i64 (R : Int), .slice q P.length cap] 29)).alloc (.cells #[.int .i64 0, .slice none 0 0] 29) = W at *
  refine (ROf_any R cap q P s _ hP0 hs hn).mono ?_
  rintro e w1 ⟨rfl, hbw1⟩
  rw [hi]
  generalize hof : ofP s P = f at *
  obtain ⟨nm, bs, sy⟩ := f
  have HOF : Hid _ := hof
  clear hof
  have halw1 := (Below.refl w1.heap.size w1).alloc (Nat.le_refl _) (.cells #[.string (bstr nm), .string (bstr bs), .int .i64 (sy : Int)] 95 (0, 0))
  have hT1 := (hT.step hbw1).step halw1
  have hP1 := (hP0.below hbw1).below halw1
  obtain ⟨c0, c1, g0, g1, d0, d1⟩ := hT1.facts
  obtain ⟨r0, r1, HR⟩ := hT1.fin hP1 5
  go_wp2_with fail
  go_wp2
  refine bodyPost_ret (v := .tuple #[rdV R q P.length cap, .int .i64 5]) ?_ ?_ ?_
  · simp [results, Tryz.results57, go_sem, r0, r1]
  · rfl
  · exact HR.out

set_option maxHeartbeats 2000000 in
set_option maxRecDepth 100000 in
theorem RSync_ok (R cap : Nat) (q : Option Addr) (P : List F3) (s : List UInt8) (w : World) (hP : FArg w q cap P) (hs : SrtP P) (hn : P.length ≤ 1000000) (hi : isP s P = true) (hb : (ofP s P).2.1.length ≤ 9223372036854775807) :
    Calls Tryz.prog 57 #[rdV R q P.length cap, .string (bstr s)] w fun e w' => RA w w' e R (wthP (s, (ofP s P).2.1, (ofP s P).2.1.length) P) 0 := by
  obtain ⟨hb0, b0, b1⟩ := two_blocks w R q P.length cap
  have hT : Two w _ R q P.length cap := ⟨hb0, b0, b1⟩
  have hP0 := hP.below hb0
  clear b0 b1
  go_enter Tryz.func57, Tryz.ntmps57
  go_wp2_with fail
  generalize (w.alloc (.cells #[.int .i64 (R : Int), .slice q P.length cap] 29)).alloc (.cells #[.int .i64 0, .slice none 0 0] 29) = W at *
  refine (ROf_any R cap q P s _ hP0 hs hn).mono ?_
  rintro e w1 ⟨rfl, hbw1⟩
  rw [hi]
  generalize hof : ofP s P = f at *
  obtain ⟨nm, bs, sy⟩ := f
  have HOF : Hid _ := hof
  clear hof
  have halw1 := (Below.refl w1.heap.size w1).alloc (Nat.le_refl _) (.cells #[.string (bstr nm), .string (bstr bs), .int .i64 (sy : Int)] 95 (0, 0))
  have hbxw1 := heap_alloc_new w1 (.cells #[.string (bstr nm), .string (bstr bs), .int .i64 (sy : Int)] 95 (0, 0))
  have hT1 := (hT.step hbw1).step halw1
  have hP1 := (hP0.below hbw1).below halw1
  have f1 := (cells_block hbxw1).1 1
  have f2 := (cells_block hbxw1).1 2
  obtain ⟨c0, c1, g0, g1, d0, d1⟩ := hT1.facts
  go_wp2_with fail
  generalize w1.alloc (.cells #[.string (bstr nm), .string (bstr bs), .int .i64 (sy : Int)] 95) = V at *
  refine (Rwith_any R cap q P (s, bs, bs.length) _ hP1 hs hn).mono ?_
  rintro e w3 ⟨q', cap', rfl, hF, hb3⟩
  have hT3 := hT1.step hb3
  clear c0 c1 g0 g1 d0 d1
  obtain ⟨c0, c1, g0, g1, d0, d1⟩ := hT3.facts
  obtain ⟨r0, r1, HR⟩ := hT3.fin hF 0
  generalize hwp : wthP (s, bs, bs.length) P = P' at *
  have HWP : Hid _ := hwp
  clear hwp
  generalize P'.length = nl at *
  go_wp2
  refine bodyPost_ret (v := .tuple #[rdV R q' nl cap', .int .i64 0]) ?_ ?_ ?_
  · simp [results, Tryz.results57, go_sem, r0, r1]
  · rfl
  · rw [HOF.out]
    simp only
    rw [HWP.out]
    exact HR.out


end Go.Proofs.YtpldfakfgngaaaaGreatDoor

namespace Go.Proofs.YtpldfakfgngaaaaGreatDoor
open Go.RowKit
attribute [local go_sem] size_bstr toList_bstr append_bstr

def reP (s : List UInt8) (P : List F3) : Int := if isP s P = true then 0 else 5
theorem SrtP.wto {P : List F3} (h : SrtP P) (s : List UInt8) : SrtP (wtoP s P) := List.Pairwise.filter _ h

set_option maxHeartbeats 2000000 in
set_option maxRecDepth 100000 in
theorem RRename_none (R cap : Nat) (q : Option Addr) (P : List F3) (s t : List UInt8) (w : World) (hP : FArg w q cap P) (hs : SrtP P) (hn : P.length ≤ 1000000) (hi : isP s P = false) :
    Calls Tryz.prog 82 #[rdV R q P.length cap, .string (bstr s), .string (bstr t)] w fun e w' => RA w w' e R (P) 5 := by
  obtain ⟨hb0, b0, b1⟩ := two_blocks w R q P.length cap
  have hT : Two w _ R q P.length cap := ⟨hb0, b0, b1⟩
  have hP0 := hP.below hb0
  clear b0 b1
  go_enter Tryz.func82, Tryz.ntmps82
  go_wp2_with fail
  generalize (w.alloc (.cells #[.int .i64 (R : Int), .slice q P.length cap] 29)).alloc (.cells #[.int .i64 0, .slice none 0 0] 29) = W at *
  refine (ROf_any R cap q P s _ hP0 hs hn).mono ?_
  rintro e w1 ⟨rfl, hbw1⟩
  rw [hi]
  generalize hof : ofP s P = f at *
  obtain ⟨nm, bs, sy⟩ := f
  have HOF : Hid _ := hof
  clear hof
  have halw1 := (Below.refl w1.heap.size w1).alloc (Nat.le_refl _) (.cells #[.string (bstr nm), .string (bstr bs), .int .i64 (sy : Int)] 95 (0, 0))
  have hT1 := (hT.step hbw1).step halw1
  have hP1 := (hP0.below hbw1).below halw1
  obtain ⟨c0, c1, g0, g1, d0, d1⟩ := hT1.facts
  obtain ⟨r0, r1, HR⟩ := hT1.fin hP1 5
  go_wp2_with fail
  go_wp2
  refine bodyPost_ret (v := .tuple #[rdV R q P.length cap, .int .i64 5]) ?_ ?_ ?_
  · simp [results, Tryz.results82, go_sem, r0, r1]
  · rfl
  · exact HR.out

set_option maxHeartbeats 2000000 in
set_option maxRecDepth 100000 in
theorem RRename_arg (R cap : Nat) (q : Option Addr) (P : List F3) (s t : List UInt8) (w : World) (hP : FArg w q cap P) (hs : SrtP P) (hn : P.length ≤ 1000000) (hi : isP s P = true) (hl : t.length ≤ 9223372036854775807) (hok : decide (1 ≤ t.length ∧ t.length ≤ 64) = false) :
    Calls Tryz.prog 82 #[rdV R q P.length cap, .string (bstr s), .string (bstr t)] w fun e w' => RA w w' e R (P) 2 := by
  obtain ⟨hb0, b0, b1⟩ := two_blocks w R q P.length cap
  have hT : Two w _ R q P.length cap := ⟨hb0, b0, b1⟩
  have hP0 := hP.below hb0
  clear b0 b1
  go_enter Tryz.func82, Tryz.ntmps82
  go_wp2_with fail
  generalize (w.alloc (.cells #[.int .i64 (R : Int), .slice q P.length cap] 29)).alloc (.cells #[.int .i64 0, .slice none 0 0] 29) = W at *
  refine (ROf_any R cap q P s _ hP0 hs hn).mono ?_
  rintro e w1 ⟨rfl, hbw1⟩
  rw [hi]
  generalize hof : ofP s P = f at *
  obtain ⟨nm, bs, sy⟩ := f
  have HOF : Hid _ := hof
  clear hof
  have halw1 := (Below.refl w1.heap.size w1).alloc (Nat.le_refl _) (.cells #[.string (bstr nm), .string (bstr bs), .int .i64 (sy : Int)] 95 (0, 0))
  have hT1 := (hT.step hbw1).step halw1
  have hP1 := (hP0.below hbw1).below halw1
  obtain ⟨c0, c1, g0, g1, d0, d1⟩ := hT1.facts
  go_wp2_with fail
  generalize w1.alloc (.cells #[.string (bstr nm), .string (bstr bs), .int .i64 (sy : Int)] 95) = V at *
  refine (Rname_any t _ hl).mono ?_
  rintro e _ ⟨rfl, rfl⟩
  rw [hok]
  clear c0 c1 g0 g1 d0 d1
  obtain ⟨c0, c1, g0, g1, d0, d1⟩ := hT1.facts
  obtain ⟨r0, r1, HR⟩ := hT1.fin hP1 2
  go_wp2_with fail
  go_wp2
  refine bodyPost_ret (v := .tuple #[rdV R q P.length cap, .int .i64 2]) ?_ ?_ ?_
  · simp [results, Tryz.results82, go_sem, r0, r1]
  · rfl
  · exact HR.out

set_option maxHeartbeats 2000000 in
set_option maxRecDepth 100000 in
theorem RRename_ok (R cap : Nat) (q : Option Addr) (P : List F3) (s t : List UInt8) (w : World) (hP : FArg w q cap P) (hs : SrtP P) (hn : P.length ≤ 1000000) (hi : isP s P = true) (hl : t.length ≤ 9223372036854775807) (hok : decide (1 ≤ t.length ∧ t.length ≤ 64) = true) :
    Calls Tryz.prog 82 #[rdV R q P.length cap, .string (bstr s), .string (bstr t)] w fun e w' => RA w w' e R (wthP (t, (ofP s P).2.1, (ofP s P).2.2) (wtoP s P)) 0 := by
  obtain ⟨hb0, b0, b1⟩ := two_blocks w R q P.length cap
  have hT : Two w _ R q P.length cap := ⟨hb0, b0, b1⟩
  have hP0 := hP.below hb0
  clear b0 b1
  go_enter Tryz.func82, Tryz.ntmps82
  go_wp2_with fail
  generalize (w.alloc (.cells #[.int .i64 (R : Int), .slice q P.length cap] 29)).alloc (.cells #[.int .i64 0, .slice none 0 0] 29) = W at *
  refine (ROf_any R cap q P s _ hP0 hs hn).mono ?_
  rintro e w1 ⟨rfl, hbw1⟩
  rw [hi]
  generalize hof : ofP s P = f at *
  obtain ⟨nm, bs, sy⟩ := f
  have HOF : Hid _ := hof
  clear hof
  have halw1 := (Below.refl w1.heap.size w1).alloc (Nat.le_refl _) (.cells #[.string (bstr nm), .string (bstr bs), .int .i64 (sy : Int)] 95 (0, 0))
  have hbxw1 := heap_alloc_new w1 (.cells #[.string (bstr nm), .string (bstr bs), .int .i64 (sy : Int)] 95 (0, 0))
  have hT1 := (hT.step hbw1).step halw1
  have hP1 := (hP0.below hbw1).below halw1
  have f1 := (cells_block hbxw1).1 1
  have f2 := (cells_block hbxw1).1 2
  obtain ⟨c0, c1, g0, g1, d0, d1⟩ := hT1.facts
  go_wp2_with fail
  have hsz : w1.heap.size < (w1.alloc (.cells #[.string (bstr nm), .string (bstr bs), .int .i64 (sy : Int)] 95)).heap.size := by simp
  generalize w1.alloc (.cells #[.string (bstr nm), .string (bstr bs), .int .i64 (sy : Int)] 95) = V at *
  refine (Rname_any t _ hl).mono ?_
  rintro e V2 ⟨rfl, hV2⟩
  subst V2
  rw [hok]
  go_wp2_with fail
  have hD1 : Below V.heap.size V V.drew := (Below.refl _ _).drew
  have hwo := Rwithout_any R cap q P s V.drew (hP1.below hD1) hn
  have hs2 := hs.wto s
  have hn2 := Nat.le_trans (wtoP_len s P) hn
  generalize hP2 : wtoP s P = P2 at *
  have HP2 : Hid _ := hP2
  clear hP2
  have hne : w1.heap.size ≠ w.heap.size + 1 := fun he => by
    have := (Array.getElem?_eq_some_iff.1 (hT.step hbw1).b1).1
    omega
  have hwi := fun (q2 : Option Addr) (cap2 : Nat) (w2 : World) (hF2 : FArg w2 q2 cap2 P2) => Rwith_any R cap2 q2 P2 (t, bs, sy) w2 hF2 hs2 hn2
  generalize hwp : wthP (t, bs, sy) P2 = P' at *
  have HWP : Hid _ := hwp
  clear hwp
  go_region_held3 (fun w' => w'.cell? ⟨w.heap.size, 0, none⟩ = some (.int .i64 (R : Int)) ∧ w'.cell? ⟨w.heap.size, 1, none⟩ = some (.slice q P.length cap) ∧ w'.cell? ⟨w1.heap.size, 1, none⟩ = some (.string (bstr bs)) ∧ w'.cell? ⟨w1.heap.size, 2, none⟩ = some (.int .i64 (sy : Int))) (first | with_reducible exact ⟨c0, c1, f1, f2⟩ | with_reducible exact ⟨e0, e1, e2, e3⟩ | go_keep)
    (first
      | (go_at_call 78; refine hwo.mono ?_; rintro e w2 ⟨q2, cap2, rfl, hF2, hb2⟩; have hT2 := (hT1.step hD1).step hb2; have k1 := (World.cell?_of_block (a := ⟨w1.heap.size, 1, none⟩) (hb2.block _ hsz)).trans f1; have k2 := (World.cell?_of_block (a := ⟨w1.heap.size, 2, none⟩) (hb2.block _ hsz)).trans f2; clear c0 c1 g0 g1 d0 d1 f1 f2; obtain ⟨c0, c1, g0, g1, d0, d1⟩ := hT2.facts; have f1 := k1; have f2 := k2; clear k1 k2)
      | (go_at_call 71; refine (hwi q2 cap2 w2 hF2).mono ?_; rintro e w3 ⟨q', cap', rfl, hF, hb3⟩; have hT3 := hT2.step hb3; have k1 := (World.cell?_of_block (a := ⟨w1.heap.size, 1, none⟩) (hb3.block _ (Nat.lt_of_lt_of_le hsz hb2.size))).trans f1; have k2 := (World.cell?_of_block (a := ⟨w1.heap.size, 2, none⟩) (hb3.block _ (Nat.lt_of_lt_of_le hsz hb2.size))).trans f2; clear c0 c1 g0 g1 d0 d1 f1 f2; obtain ⟨c0, c1, g0, g1, d0, d1⟩ := hT3.facts; have f1 := k1; have f2 := k2; clear k1 k2; obtain ⟨r0, r1, HR⟩ := hT3.fin hF 0; generalize P'.length = nl at *; have e0 : ((w3.setCell ⟨w.heap.size + 1, 0, none⟩ (.int .i64 (R : Int))).setCell ⟨w.heap.size + 1, 1, none⟩ (.slice q' nl cap')).cell? ⟨w.heap.size, 0, none⟩ = some (.int .i64 (R : Int)) := (by rw [set_far _ (by omega), set_far _ (by omega)]; exact c0); have e1 : ((w3.setCell ⟨w.heap.size + 1, 0, none⟩ (.int .i64 (R : Int))).setCell ⟨w.heap.size + 1, 1, none⟩ (.slice q' nl cap')).cell? ⟨w.heap.size, 1, none⟩ = some (.slice q P.length cap) := (by rw [set_far _ (by omega), set_far _ (by omega)]; exact c1); have e2 : ((w3.setCell ⟨w.heap.size + 1, 0, none⟩ (.int .i64 (R : Int))).setCell ⟨w.heap.size + 1, 1, none⟩ (.slice q' nl cap')).cell? ⟨w1.heap.size, 1, none⟩ = some (.string (bstr bs)) := (by rw [set_far _ hne, set_far _ hne]; exact f1); have e3 : ((w3.setCell ⟨w.heap.size + 1, 0, none⟩ (.int .i64 (R : Int))).setCell ⟨w.heap.size + 1, 1, none⟩ (.slice q' nl cap')).cell? ⟨w1.heap.size, 2, none⟩ = some (.int .i64 (sy : Int)) := (by rw [set_far _ hne, set_far _ hne]; exact f2)))
  go_wp2
  refine bodyPost_ret (v := .tuple #[rdV R q' nl cap', .int .i64 0]) ?_ ?_ ?_
  · simp [results, Tryz.results82, go_sem, r0, r1]
  · rfl
  · rw [HOF.out, HP2.out]
    simp only
    rw [HWP.out]
    exact HR.out

set_option maxHeartbeats 2000000 in
set_option maxRecDepth 100000 in
theorem RRemove_none (R cap : Nat) (q : Option Addr) (P : List F3) (s : List UInt8) (w : World) (hP : FArg w q cap P) (hs : SrtP P) (hn : P.length ≤ 1000000) (hi : isP s P = false) :
    Calls Tryz.prog 42 #[rdV R q P.length cap, .string (bstr s)] w fun e w' => RA w w' e R (P) 5 := by
  obtain ⟨hb0, b0, b1⟩ := two_blocks w R q P.length cap
  have hT : Two w _ R q P.length cap := ⟨hb0, b0, b1⟩
  have hP0 := hP.below hb0
  clear b0 b1
  go_enter Tryz.func42, Tryz.ntmps42
  go_wp2_with fail
  generalize (w.alloc (.cells #[.int .i64 (R : Int), .slice q P.length cap] 29)).alloc (.cells #[.int .i64 0, .slice none 0 0] 29) = W at *
  refine (ROf_any R cap q P s _ hP0 hs hn).mono ?_
  rintro e w1 ⟨rfl, hbw1⟩
  rw [hi]
  generalize ofP s P = f at *
  obtain ⟨nm, bs, sy⟩ := f
  have halw1 := (Below.refl w1.heap.size w1).alloc (Nat.le_refl _) (.cells #[.string (bstr nm), .string (bstr bs), .int .i64 (sy : Int)] 95 (0, 0))
  have hT1 := (hT.step hbw1).step halw1
  have hP1 := (hP0.below hbw1).below halw1
  obtain ⟨c0, c1, g0, g1, d0, d1⟩ := hT1.facts
  obtain ⟨r0, r1, HR⟩ := hT1.fin hP1 5
  go_wp2_with fail
  go_wp2
  refine bodyPost_ret (v := .tuple #[rdV R q P.length cap, .int .i64 5]) ?_ ?_ ?_
  · simp [results, Tryz.results42, go_sem, r0, r1]
  · rfl
  · exact HR.out

set_option maxHeartbeats 2000000 in
set_option maxRecDepth 100000 in
theorem RRemove_ok (R cap : Nat) (q : Option Addr) (P : List F3) (s : List UInt8) (w : World) (hP : FArg w q cap P) (hs : SrtP P) (hn : P.length ≤ 1000000) (hi : isP s P = true) :
    Calls Tryz.prog 42 #[rdV R q P.length cap, .string (bstr s)] w fun e w' => RA w w' e R (wtoP s P) 0 := by
  obtain ⟨hb0, b0, b1⟩ := two_blocks w R q P.length cap
  have hT : Two w _ R q P.length cap := ⟨hb0, b0, b1⟩
  have hP0 := hP.below hb0
  clear b0 b1
  go_enter Tryz.func42, Tryz.ntmps42
  go_wp2_with fail
  generalize (w.alloc (.cells #[.int .i64 (R : Int), .slice q P.length cap] 29)).alloc (.cells #[.int .i64 0, .slice none 0 0] 29) = W at *
  refine (ROf_any R cap q P s _ hP0 hs hn).mono ?_
  rintro e w1 ⟨rfl, hbw1⟩
  rw [hi]
  generalize ofP s P = f at *
  obtain ⟨nm, bs, sy⟩ := f
  have halw1 := (Below.refl w1.heap.size w1).alloc (Nat.le_refl _) (.cells #[.string (bstr nm), .string (bstr bs), .int .i64 (sy : Int)] 95 (0, 0))
  have hT1 := (hT.step hbw1).step halw1
  have hP1 := (hP0.below hbw1).below halw1
  obtain ⟨c0, c1, g0, g1, d0, d1⟩ := hT1.facts
  go_wp2_with fail
  generalize w1.alloc (.cells #[.string (bstr nm), .string (bstr bs), .int .i64 (sy : Int)] 95) = V at *
  refine (Rwithout_any R cap q P s _ hP1 hn).mono ?_
  rintro e w2 ⟨q', cap', rfl, hF, hb2⟩
  have hT2 := hT1.step hb2
  clear c0 c1 g0 g1 d0 d1
  obtain ⟨c0, c1, g0, g1, d0, d1⟩ := hT2.facts
  obtain ⟨r0, r1, HR⟩ := hT2.fin hF 0
  generalize (wtoP s P).length = nl at *
  go_wp2
  refine bodyPost_ret (v := .tuple #[rdV R q' nl cap', .int .i64 0]) ?_ ?_ ?_
  · simp [results, Tryz.results42, go_sem, r0, r1]
  · rfl
  · exact HR.out

set_option maxHeartbeats 2000000 in
set_option maxRecDepth 100000 in
theorem RRead_any (R cap : Nat) (q : Option Addr) (P : List F3) (s : List UInt8) (w : World) (hP : FArg w q cap P) (hs : SrtP P) (hn : P.length ≤ 1000000) :
    Calls Tryz.prog 45 #[rdV R q P.length cap, .string (bstr s)] w fun e w' => e = .returned (.tuple #[.string (bstr (ofP s P).2.1), .int .i64 (reP s P)]) ∧ Below w.heap.size w w' := by
  have hb0 : Below w.heap.size w (w.alloc (.cells #[.int .i64 (R : Int), .slice q P.length cap] 29)) := (Below.refl _ _).alloc (Nat.le_refl _) _
  have hP0 := hP.below hb0
  go_enter Tryz.func45, Tryz.ntmps45
  go_wp2_with fail
  generalize w.alloc (.cells #[.int .i64 (R : Int), .slice q P.length cap] 29) = W at *
  refine (ROf_any R cap q P s _ hP0 hs hn).mono ?_
  rintro e w1 ⟨rfl, hb1⟩
  generalize hof : ofP s P = f at *
  obtain ⟨nm, bs, sy⟩ := f
  have HOF : Hid _ := hof
  clear hof
  have hbx := heap_alloc_new w1 (.cells #[.string (bstr nm), .string (bstr bs), .int .i64 (sy : Int)] 95 (0, 0))
  have f1 := (cells_block hbx).1 1
  have hbw := (b_step hb0 hb1 (Nat.le_refl _)).alloc (Nat.le_trans hb0.size hb1.size) (.cells #[.string (bstr nm), .string (bstr bs), .int .i64 (sy : Int)] 95)
  generalize hisn : isP s P = is at *
  have HIS : Hid _ := hisn
  clear hisn
  cases is with
  | false =>
    go_wp2_with fail
    go_wp2
    go_ret2
    refine ⟨?_, hbw⟩
    have h1 := ofP_none HIS.out
    rw [reP, HIS.out, h1]
    rfl
  | true =>
    go_wp2_with fail
    go_wp2
    go_ret2
    refine ⟨?_, hbw⟩
    rw [reP, HIS.out, HOF.out]
    rfl

end Go.Proofs.YtpldfakfgngaaaaGreatDoor

namespace Go.Proofs.YtpldfakfgngaaaaGreatDoor
open Go.RowKit
open Go.Sort (Holds grow putRow)
attribute [local go_sem] size_bstr toList_bstr append_bstr

/-- Texts in memory, as an argument. -/
def NArg (w : World) (q : Option Addr) (A : List (List UInt8)) : Prop := 0 < A.length → ∃ b off, q = some ⟨b, off, none⟩ ∧ b < w.heap.size ∧ ∀ i (h : i < A.length), w.cell? ⟨b, off + i, none⟩ = some (.string (bstr A[i]))
theorem NArg.below {w w' : World} {q : Option Addr} {A : List (List UInt8)} (h : NArg w q A) (hb : Below w.heap.size w w') : NArg w' q A := fun h0 => by
  obtain ⟨b, off, h1, h2, h3⟩ := h h0
  exact ⟨b, off, h1, Nat.lt_of_lt_of_le h2 hb.size, fun i hi => (World.cell?_of_block (a := ⟨b, off + i, none⟩) (hb.block b h2)).trans (h3 i hi)⟩
theorem NArg.of_own {w : World} {B : Nat} {v : Value} {A : List (List UInt8)} (h : w.ownsRow B 9 1 v A.length (A.map encStr)) : ∃ q cap, v = .slice q A.length cap ∧ NArg w q A ∧ ∀ i, v.ownBlock = some i → B ≤ i := by
  rcases h.2 with ⟨rfl, h0⟩ | ⟨g, cap, cur, rfl, hbg, hg, hnc, _, _, _⟩
  · exact ⟨none, 0, by rw [h0], fun h1 => by omega, fun i hi => by cases hi⟩
  · refine ⟨_, cap, rfl, fun _ => ⟨g, 0, rfl, (Array.getElem?_eq_some_iff.1 hg).1, fun i hi => ?_⟩, fun i hi => by cases hi; exact hbg⟩
    have := h.cells (g := g) rfl i (encStr A[i]) (by simp [hi])
    rw [Addr.add_lit] at this
    exact this

/-- The names that begin so. -/
def lstP (p : List UInt8) (P : List F3) : List (List UInt8) := (P.map (fun f => f.1)).filter (fun x => p.isPrefixOf x)
theorem lstP_Pu (p : List UInt8) (L : List Fl) : lstP p (Pu L) = lst p L := by
  unfold lstP lst Pu nms
  rw [List.map_map]
  rfl
theorem lstP_succ {P : List F3} {i : Nat} (h : i < P.length) (p : List UInt8) : lstP p (P.take (i + 1)) = lstP p (P.take i) ++ (if p.isPrefixOf P[i].1 = true then [P[i].1] else []) := by
  unfold lstP
  rw [List.take_succ_eq_append_getElem h, List.map_append, List.filter_append]
  congr 1
  by_cases hs : p.isPrefixOf P[i].1 = true <;> simp [hs]
theorem lstP_len (p : List UInt8) (P : List F3) : (lstP p P).length ≤ P.length := by
  have := List.length_filter_le (fun x => p.isPrefixOf x) (P.map (fun f => f.1))
  unfold lstP
  rw [List.length_map] at this
  exact this
theorem pre_take (p s : List UInt8) : p.isPrefixOf s = (s.take p.length == p) := by
  rw [Bool.eq_iff_iff, List.isPrefixOf_iff_prefix, beq_iff_eq, List.prefix_iff_eq_take]
  constructor
  · exact fun h => h.symm
  · exact fun h => h.symm
theorem pre_long {p s : List UInt8} (h : ¬ p.length ≤ s.length) : p.isPrefixOf s = false := by
  rw [Bool.eq_false_iff]
  intro hp
  exact h (List.isPrefixOf_iff_prefix.1 hp).length_le

set_option maxHeartbeats 2000000 in
set_option maxRecDepth 100000 in
theorem RList_any (R cap : Nat) (q : Option Addr) (P : List F3) (s : List UInt8) (w : World) (hP : FArg w q cap P) (hn : P.length ≤ 1000000) (hln : ∀ f ∈ P, f.1.length ≤ 64) :
    Calls Tryz.prog 79 #[rdV R q P.length cap, .string (bstr s)] w fun e w' => ∃ q' cap', e = .returned (.slice q' (lstP s P).length cap') ∧ NArg w' q' (lstP s P) ∧ Below w.heap.size w w' := by
  obtain ⟨i0, hi, hz0, hz1, hz2⟩ := info_parts Tryz.infoStr
  have hb0 : Below w.heap.size w (w.alloc (.cells #[.int .i64 (R : Int), .slice q P.length cap] 29)) := (Below.refl _ _).alloc (Nat.le_refl _) _
  have hbx := boxed w (.int .i64 (R : Int)) (.slice q P.length cap) 29
  have hP1 := hP.below hb0
  go_enter Tryz.func79, Tryz.ntmps79
  go_wp2_with fail
  generalize w.alloc (.cells #[.int .i64 (R : Int), .slice q P.length cap] 29) = W at *
  have hlt0 := (Array.getElem?_eq_some_iff.1 hbx).1
  go_loopw [5, 6] (fun s5 s6 wr => ∃ i : Nat, s6 = .int .i64 (i : Int) ∧ i ≤ P.length ∧ wr.ownsRow W.heap.size 9 1 s5 (lstP s (P.take i)).length ((lstP s (P.take i)).map encStr) ∧ Below W.heap.size W wr) (fun _ s6 _ => P.length - (intOf s6).toNat)
  case atStart => exact ⟨0, rfl, Nat.zero_le _, World.ownsRow_nil _ _ _ _, Below.refl _ _⟩
  case round =>
    obtain ⟨i, rfl, hi1, hown, hbr⟩ := hrel
    have c1 := (cells_block ((hbr.block _ hlt0).trans hbx)).1 1
    by_cases hl : i < P.length
    · have hPr := hP1.below hbr
      obtain ⟨b, off, rfl, _, hR⟩ := hPr.at_ (by omega)
      have a0 := (hR i hl).c0
      have hst := lstP_succ hl s
      have hlen := lstP_len s (P.take i)
      have htk : (P.take i).length = i := by rw [List.length_take]; omega
      have hil : (i : Int) < (P.length : Int) := by omega
      have hn64 := hln P[i] (List.getElem_mem hl)
      clear hR hln
      generalize P[i].1 = nm at *
      by_cases hle : s.length ≤ nm.length
      · have hpt := pre_take s nm
        have hcl : (s.length : Int) ≤ (nm.length : Int) := by omega
        have hhd := fun w : World => run_head (P := Tryz.prog) 9 nm s.length hle w Tryz.underlying9
        cases hpx : s.isPrefixOf nm with
        | false =>
          rw [hpx] at hst hpt
          rw [if_neg (by decide), List.append_nil] at hst
          have HS : Hid _ := hst
          have hpt' := hpt.symm
          clear hst hpt
          go_wp2
          go_roundw
          case rel => exact ⟨i + 1, by simp, hl, by rw [HS.out]; exact hown, hbr⟩
          case measure => simp [intOf]; omega
        | true =>
          rw [hpx] at hst hpt
          rw [if_pos rfl] at hst
          have HS : Hid _ := hst
          have hpt' := hpt.symm
          clear hst hpt
          go_wp2_with (at_builtin; refine wpList_append_own _ rfl _ _ 62 rfl W.heap.size 9 i0 (.string ⟨#[]⟩) 1 16 Tryz.underlying62 hi hz0 hz1 hz2 rfl (by decide) _ _ _ rfl (hown.alloc _) ⟨wr.heap.size, 0, none⟩ 1 1 [Value.string (bstr nm)] rfl rfl ?c1 ?c2 ?c3 ?c4 ?c5 ?_)
          case c1 => exact cell_one_new _ _ _
          case c2 => simp [Value.oneCell']
          case c3 => unfold maxLen; omega
          case c4 => omega
          case c5 => have := hbr.size; simp; omega
          intro v' w5 hown5 hgrow5 _
          go_wp2
          go_roundw
          case rel =>
            refine ⟨i + 1, by simp, hl, ?_, (hbr.alloc hbr.size _).grown hgrow5 (by have := hbr.size; simp; omega) (fun j hj => (hown.lt j hj).1)⟩
            rw [HS.out, List.map_append, List.length_append]
            exact hown5
          case measure => simp [intOf]; omega
      · have hpx := pre_long hle
        have hcl : ¬ (s.length : Int) ≤ (nm.length : Int) := by omega
        rw [hpx, if_neg (by decide), List.append_nil] at hst
        have HS : Hid _ := hst
        clear hst hpx
        go_wp2
        go_roundw
        case rel => exact ⟨i + 1, by simp, hl, by rw [HS.out]; exact hown, hbr⟩
        case measure => simp [intOf]; omega
    · have hie : i = P.length := by omega
      have hc : ¬ ((i : Int) < (P.length : Int)) := by omega
      rw [hie, List.take_length] at hown
      obtain ⟨q', cap', rfl, hF, _⟩ := NArg.of_own hown
      clear hie hown
      go_wp2
      go_ret
      exact ⟨q', ⟨cap', rfl⟩, hF, b_step hb0 hbr (Nat.le_refl _)⟩

/-- A file behind a loss of power. -/
def crO (k : Int) (f : F3) : F3 := (f.1, f.2.1.take (f.2.2 + kn k (f.2.1.length - f.2.2)), f.2.2 + kn k (f.2.1.length - f.2.2))
def crP (ks : List Int) (P : List F3) : List F3 := P.mapIdx (fun j f => crO (kAt ks j) f)
theorem crP_len (ks : List Int) (P : List F3) : (crP ks P).length = P.length := by simp [crP]
theorem crP_succ {P : List F3} {i : Nat} (h : i < P.length) (ks : List Int) : crP ks (P.take (i + 1)) = crP ks (P.take i) ++ [crO (kAt ks i) P[i]] := by
  unfold crP
  have e : (P.take i).length = i := by rw [List.length_take]; omega
  rw [List.take_succ_eq_append_getElem h, List.mapIdx_concat, e]

/-- A row appended to one that the call owns, as a run; what is told of the other blocks. -/
theorem run_append_g {w : World} (ty : TypeId) (base : Nat) (v : Value) (xs : List F3) (hown : w.ownsRow base 95 3 v xs.length (fcells xs))
    (q : Option Addr) (cap : Nat) (ds : List F3) (hA : FArg w q cap ds) (hbytes : (xs.length + ds.length) * 40 ≤ 140737488355328) (hbase : base ≤ w.heap.size) :
    ∃ v' w', (Builtin.append_ #[27, 27] ty #[v, .slice q ds.length cap]).run Tryz.prog w = .ok v' w' ∧ w'.ownsRow base 95 3 v' (xs ++ ds).length (fcells (xs ++ ds)) ∧ Below base w w' ∧ ∀ i, i < w.heap.size → v.ownBlock ≠ some i → w'.heap[i]? = w.heap[i]? := by
  obtain ⟨i0, hi, hz0, hz1, hz2⟩ := info_parts Tryz.infoFile
  cases q with
  | none =>
    obtain ⟨rfl, rfl⟩ := hA.nil rfl
    refine ⟨v, w, run_append_owned_none (P := Tryz.prog) (w := w) base 27 ty 95 i0 3 Tryz.underlying27 hi v _ _ hown, ?_, Below.refl _ _, fun _ _ _ => rfl⟩
    rw [List.append_nil]
    exact hown
  | some ad =>
    have hnews : ∀ j u, (fcells ds)[j]? = some u → w.cell? (ad.add j) = some u := by
      intro j u hj
      have h0 : 0 < ds.length := by
        by_cases h : 0 < ds.length
        · exact h
        · have : ds = [] := List.eq_nil_of_length_eq_zero (by omega)
          subst this
          simp [fcells] at hj
      obtain ⟨b, off, e, _, hR⟩ := hA.at_ h0
      cases e
      exact hR.cells j u hj
    obtain ⟨v', w', hr, h2, h3, _⟩ := run_append_own (P := Tryz.prog) w base 27 ty 95 i0 (.agg #[.string ⟨#[]⟩, .string ⟨#[]⟩, .int .i64 0]) 3 40 Tryz.underlying27 hi hz0 hz1 hz2 rfl (by decide) v _ _ hown ad ds.length cap (fcells ds) (fcells_length ds) hnews (fcells_one ds) (by unfold maxLen; omega) hbytes hbase
    refine ⟨v', w', hr, ?_, (Below.refl _ _).grown h3 hbase (fun k hk => (hown.lt k hk).1), fun i hi hne => h3.block i hi hne.symm⟩
    rw [List.length_append, fcells_append]
    exact h2
theorem crO_lit (k : Int) (nm bs : List UInt8) (sy z : Nat) (hz : kn k (bs.length - sy) = z) : crO k (nm, bs, sy) = (nm, bs.take (sy + z), sy + z) := by subst hz; rfl
theorem kn_zero (u : Nat) : kn 0 u = 0 := by simp [kn]

set_option maxHeartbeats 4000000 in
set_option maxRecDepth 100000 in
theorem RCrash_any (R cap kc : Nat) (q kq : Option Addr) (P : List F3) (ks : List Int) (w : World) (hP : FArg w q cap P) (hn : P.length ≤ 1000000) (hsy : ∀ f ∈ P, f.2.2 ≤ f.2.1.length ∧ f.2.1.length ≤ 140737488355328) (hk : IAt w w.heap.size kq ks) :
    Calls Tryz.prog 25 #[rdV R q P.length cap, .slice kq ks.length kc] w fun e w' => ∃ q' cap', e = .returned (rdV R q' (crP ks P).length cap') ∧ FArg w' q' cap' (crP ks P) ∧ Below w.heap.size w w' := by
  obtain ⟨hb0, b0, b1⟩ := two_blocks w R q P.length cap
  have hT : Two w _ R q P.length cap := ⟨hb0, b0, b1⟩
  have hP0 := hP.below hb0
  clear b0 b1
  go_enter Tryz.func25, Tryz.ntmps25
  go_wp2_with fail
  generalize (w.alloc (.cells #[.int .i64 (R : Int), .slice q P.length cap] 29)).alloc (.cells #[.int .i64 0, .slice none 0 0] 29) = W at *
  go_loopw [5, 6] (fun s5 s6 wr => ∃ i : Nat, s6 = .int .i64 (i : Int) ∧ i ≤ P.length ∧ wr.ownsRow W.heap.size 95 3 s5 (crP ks (P.take i)).length (fcells (crP ks (P.take i))) ∧ Below W.heap.size W wr) (fun _ s6 _ => P.length - (intOf s6).toNat)
  case atStart => exact ⟨0, rfl, Nat.zero_le _, World.ownsRow_nil _ _ _ _, Below.refl _ _⟩
  case round =>
    obtain ⟨i, rfl, hi, hown, hbr⟩ := hrel
    have hTr := hT.step hbr
    obtain ⟨c0, c1, g0, g1, d0, d1⟩ := hTr.facts
    by_cases hl : i < P.length
    · have hPr := hP0.below hbr
      obtain ⟨b, off, rfl, _, hR⟩ := hPr.at_ (by omega)
      have hx := hR i hl
      have hst := crP_succ hl ks
      have htk : (crP ks (P.take i)).length = i := by rw [crP_len, List.length_take]; omega
      have hil : (i : Int) < (P.length : Int) := by omega
      obtain ⟨hs1, hs2⟩ := hsy P[i] (List.getElem_mem hl)
      clear hR
      generalize P[i] = x at *
      obtain ⟨nm, bs, sy⟩ := x
      obtain ⟨a0, a1, a2⟩ := hx
      simp only at a0 a1 a2 hs1 hs2
      have hbA : Below W.heap.size W (wr.alloc (.cells #[.string (bstr nm), .string (bstr bs), .int .i64 (sy : Int)] 95)) := hbr.alloc hbr.size _
      have hownA := hown.alloc (.cells #[.string (bstr nm), .string (bstr bs), .int .i64 (sy : Int)] 95 (0, 0))
      have hbxA := heap_alloc_new wr (.cells #[.string (bstr nm), .string (bstr bs), .int .i64 (sy : Int)] 95 (0, 0))
      have f0 := (cells_block hbxA).1 0
      have f1 := (cells_block hbxA).1 1
      have f2 := (cells_block hbxA).1 2
      have hgA : wr.heap.size < (wr.alloc (.cells #[.string (bstr nm), .string (bstr bs), .int .i64 (sy : Int)] 95)).heap.size := by simp
      have hnb : ∀ k, u5.ownBlock = some k → k ≠ wr.heap.size := fun k hk he => by have := (hown.lt k hk).2; omega
      have hle := kn_le (kAt ks i) (bs.length - sy)
      have hu : (((bs.length - sy : Nat) : Int)) = (bs.length : Int) - (sy : Int) := by omega
      clear hsy hTr g0 g1 d0 d1 hown hbr hbxA
      by_cases hki : i < ks.length
      · obtain ⟨kb, ko, rfl, hkb, hkc⟩ := hk (by omega)
        have ck := hkc i hki
        have hkat : kAt ks i = ks[i] := by unfold kAt; rw [List.getD_eq_getElem?_getD, List.getElem?_eq_getElem hki]; rfl
        have hkil : (i : Int) < (ks.length : Int) := by omega
        have ckA : (wr.alloc (.cells #[.string (bstr nm), .string (bstr bs), .int .i64 (sy : Int)] 95)).cell? ⟨kb, ko + i, none⟩ = some (.int .i64 ks[i]) := (World.cell?_of_block (a := ⟨kb, ko + i, none⟩) ((b_step hb0 hbA (Nat.le_refl _)).block kb hkb)).trans ck
        rw [hkat] at hst hle
        clear ck hkc hkat
        generalize ks[i] = k at *
        by_cases hneg : k.tmod (((bs.length - sy : Nat) : Int) + 1) < 0
        · have hkn := kn_neg hneg
          rw [hu] at hneg hkn
          go_wp2_with fail
          have hkn2 : k.tmod ((bs.length : Int) - (sy : Int) + 1) + ((bs.length : Int) - (sy : Int)) + 1 = ((kn k (bs.length - sy) : Nat) : Int) := by omega
          simp only [hkn2]
          generalize hz : kn k (bs.length - sy) = z at *
          have HS : Hid (crP ks (P.take (i + 1)) = crP ks (P.take i) ++ [(nm, bs.take (sy + z), sy + z)]) := by rw [hst, crO_lit _ _ _ _ _ hz]; rfl
          clear hst hz hkn hkn2 hneg
          generalize wr.alloc (.cells #[.string (bstr nm), .string (bstr bs), .int .i64 (sy : Int)] 95) = A at *
          have hsl : ∀ w : World, (Instr.slice 9 (.string (bstr bs)) none (some (.int .i64 ((sy : Int) + (z : Int)))) none).run Tryz.prog w = .ok (.string (bstr (bs.take (sy + z)))) w := fun w => by
            have := run_head (P := Tryz.prog) 9 bs (sy + z) (by omega) w Tryz.underlying9
            rw [Int.natCast_add] at this
            exact this
          have hwr : IntKind.i64.wrap ((sy : Int) + (z : Int)) = ((sy : Int) + (z : Int)) := by rw [IntKind.wrap_i64]; omega
          have hI1 : (0 : Int) ≤ ((sy : Int) + (z : Int)) := by omega
          have hI2 : ((sy : Int) + (z : Int)) ≤ (bs.length : Int) := by omega
          obtain ⟨v', w', hrun, hv', hb', hk'⟩ := run_append_g (w := A.drew.alloc (.cells #[.string (bstr nm), .string (bstr (bs.take (sy + z))), .int .i64 (((sy + z) : Nat) : Int)] 95)) 27 W.heap.size u5 (crP ks (P.take i)) ((hownA.drew).alloc _) _ 1 [(nm, bs.take (sy + z), (sy + z))] (FArg.one A.drew (nm, bs.take (sy + z), (sy + z))) (by rw [htk]; simp only [List.length_cons, List.length_nil]; omega) (by have := hbA.size; simp; omega)
          rw [← HS.out] at hv'
          rw [Int.natCast_add] at hrun
          have hbV : Below A.heap.size A (A.drew.alloc (.cells #[.string (bstr nm), .string (bstr (bs.take (sy + z))), .int .i64 ((sy : Int) + (z : Int))] 95)) := ((Below.refl _ _).drew).alloc (Nat.le_refl _) _
          have hbW : Below W.heap.size W w' := (b_step hbA hbV (Nat.le_refl _)).trans hb'
          have kv : ∀ o, (A.drew.alloc (.cells #[.string (bstr nm), .string (bstr (bs.take (sy + z))), .int .i64 ((sy : Int) + (z : Int))] 95)).cell? ⟨wr.heap.size, o, none⟩ = A.cell? ⟨wr.heap.size, o, none⟩ := fun o => World.cell?_of_block (a := ⟨wr.heap.size, o, none⟩) (hbV.block _ hgA)
          have kw : ∀ o, w'.cell? ⟨wr.heap.size, o, none⟩ = A.cell? ⟨wr.heap.size, o, none⟩ := fun o => (World.cell?_of_block (a := ⟨wr.heap.size, o, none⟩) (hk' _ (Nat.lt_of_lt_of_le hgA hbV.size) (fun he => hnb _ he rfl))).trans (kv o)
          have m0 := (kv 0).trans f0
          have m1 := (kv 1).trans f1
          have m2 := (kv 2).trans f2
          have n0 := (kw 0).trans f0
          have n1 := (kw 1).trans f1
          have n2 := (kw 2).trans f2
          clear kv kw hk' hb' hbV hownA
          have HV : Hid _ := hv'
          clear hv'
          go_region_held3 (fun w' => w'.cell? ⟨wr.heap.size, 0, none⟩ = some (.string (bstr nm)) ∧ w'.cell? ⟨wr.heap.size, 1, none⟩ = some (.string (bstr bs)) ∧ w'.cell? ⟨wr.heap.size, 2, none⟩ = some (.int .i64 (sy : Int))) (first | with_reducible exact ⟨f0, f1, f2⟩ | with_reducible exact ⟨m0, m1, m2⟩ | with_reducible exact ⟨n0, n1, n2⟩ | go_keep)
            ((refine step_app_f (by rfl) _ _ (by rfl) _ _ (by rfl) (by rfl) _ _ hrun ?_))
          go_wp2
          go_roundw
          case rel => exact ⟨i + 1, by simp, hl, HV.out, hbW⟩
          case measure => simp [intOf]; omega
        · have hkn := kn_pos hneg
          rw [hu] at hneg hkn
          go_wp2_with fail
          simp only [← hkn]
          generalize hz : kn k (bs.length - sy) = z at *
          have HS : Hid (crP ks (P.take (i + 1)) = crP ks (P.take i) ++ [(nm, bs.take (sy + z), sy + z)]) := by rw [hst, crO_lit _ _ _ _ _ hz]; rfl
          clear hst hz hkn hneg
          generalize wr.alloc (.cells #[.string (bstr nm), .string (bstr bs), .int .i64 (sy : Int)] 95) = A at *
          have hsl : ∀ w : World, (Instr.slice 9 (.string (bstr bs)) none (some (.int .i64 ((sy : Int) + (z : Int)))) none).run Tryz.prog w = .ok (.string (bstr (bs.take (sy + z)))) w := fun w => by
            have := run_head (P := Tryz.prog) 9 bs (sy + z) (by omega) w Tryz.underlying9
            rw [Int.natCast_add] at this
            exact this
          have hwr : IntKind.i64.wrap ((sy : Int) + (z : Int)) = ((sy : Int) + (z : Int)) := by rw [IntKind.wrap_i64]; omega
          have hI1 : (0 : Int) ≤ ((sy : Int) + (z : Int)) := by omega
          have hI2 : ((sy : Int) + (z : Int)) ≤ (bs.length : Int) := by omega
          obtain ⟨v', w', hrun, hv', hb', hk'⟩ := run_append_g (w := A.drew.alloc (.cells #[.string (bstr nm), .string (bstr (bs.take (sy + z))), .int .i64 (((sy + z) : Nat) : Int)] 95)) 27 W.heap.size u5 (crP ks (P.take i)) ((hownA.drew).alloc _) _ 1 [(nm, bs.take (sy + z), (sy + z))] (FArg.one A.drew (nm, bs.take (sy + z), (sy + z))) (by rw [htk]; simp only [List.length_cons, List.length_nil]; omega) (by have := hbA.size; simp; omega)
          rw [← HS.out] at hv'
          rw [Int.natCast_add] at hrun
          have hbV : Below A.heap.size A (A.drew.alloc (.cells #[.string (bstr nm), .string (bstr (bs.take (sy + z))), .int .i64 ((sy : Int) + (z : Int))] 95)) := ((Below.refl _ _).drew).alloc (Nat.le_refl _) _
          have hbW : Below W.heap.size W w' := (b_step hbA hbV (Nat.le_refl _)).trans hb'
          have kv : ∀ o, (A.drew.alloc (.cells #[.string (bstr nm), .string (bstr (bs.take (sy + z))), .int .i64 ((sy : Int) + (z : Int))] 95)).cell? ⟨wr.heap.size, o, none⟩ = A.cell? ⟨wr.heap.size, o, none⟩ := fun o => World.cell?_of_block (a := ⟨wr.heap.size, o, none⟩) (hbV.block _ hgA)
          have kw : ∀ o, w'.cell? ⟨wr.heap.size, o, none⟩ = A.cell? ⟨wr.heap.size, o, none⟩ := fun o => (World.cell?_of_block (a := ⟨wr.heap.size, o, none⟩) (hk' _ (Nat.lt_of_lt_of_le hgA hbV.size) (fun he => hnb _ he rfl))).trans (kv o)
          have m0 := (kv 0).trans f0
          have m1 := (kv 1).trans f1
          have m2 := (kv 2).trans f2
          have n0 := (kw 0).trans f0
          have n1 := (kw 1).trans f1
          have n2 := (kw 2).trans f2
          clear kv kw hk' hb' hbV hownA
          have HV : Hid _ := hv'
          clear hv'
          go_region_held3 (fun w' => w'.cell? ⟨wr.heap.size, 0, none⟩ = some (.string (bstr nm)) ∧ w'.cell? ⟨wr.heap.size, 1, none⟩ = some (.string (bstr bs)) ∧ w'.cell? ⟨wr.heap.size, 2, none⟩ = some (.int .i64 (sy : Int))) (first | with_reducible exact ⟨f0, f1, f2⟩ | with_reducible exact ⟨m0, m1, m2⟩ | with_reducible exact ⟨n0, n1, n2⟩ | go_keep)
            ((refine step_app_f (by rfl) _ _ (by rfl) _ _ (by rfl) (by rfl) _ _ hrun ?_))
          go_wp2
          go_roundw
          case rel => exact ⟨i + 1, by simp, hl, HV.out, hbW⟩
          case measure => simp [intOf]; omega
      · have hkil : ¬ (i : Int) < (ks.length : Int) := by omega
        have hkat : kAt ks i = 0 := by unfold kAt; rw [List.getD_eq_getElem?_getD, List.getElem?_eq_none (by omega)]; rfl
        rw [hkat] at hst hle
        have hz0 := kn_zero (bs.length - sy)
        go_wp2_with fail
        have HS : Hid (crP ks (P.take (i + 1)) = crP ks (P.take i) ++ [(nm, bs.take sy, sy)]) := by rw [hst, crO_lit _ _ _ _ _ hz0]; rfl
        clear hst hz0
        generalize wr.alloc (.cells #[.string (bstr nm), .string (bstr bs), .int .i64 (sy : Int)] 95) = A at *
        have hsl : ∀ w : World, (Instr.slice 9 (.string (bstr bs)) none (some (.int .i64 (sy : Int))) none).run Tryz.prog w = .ok (.string (bstr (bs.take sy))) w := fun w => by
          have := run_head (P := Tryz.prog) 9 bs sy (by omega) w Tryz.underlying9
          exact this
        have hwr : IntKind.i64.wrap (sy : Int) = (sy : Int) := by rw [IntKind.wrap_i64]; omega
        have hI1 : (0 : Int) ≤ (sy : Int) := by omega
        have hI2 : (sy : Int) ≤ (bs.length : Int) := by omega
        obtain ⟨v', w', hrun, hv', hb', hk'⟩ := run_append_g (w := A.drew.alloc (.cells #[.string (bstr nm), .string (bstr (bs.take sy)), .int .i64 ((sy : Nat) : Int)] 95)) 27 W.heap.size u5 (crP ks (P.take i)) ((hownA.drew).alloc _) _ 1 [(nm, bs.take sy, sy)] (FArg.one A.drew (nm, bs.take sy, sy)) (by rw [htk]; simp only [List.length_cons, List.length_nil]; omega) (by have := hbA.size; simp; omega)
        rw [← HS.out] at hv'
        have hrun2 := hrun
        have hbV : Below A.heap.size A (A.drew.alloc (.cells #[.string (bstr nm), .string (bstr (bs.take sy)), .int .i64 (sy : Int)] 95)) := ((Below.refl _ _).drew).alloc (Nat.le_refl _) _
        have hbW : Below W.heap.size W w' := (b_step hbA hbV (Nat.le_refl _)).trans hb'
        have kv : ∀ o, (A.drew.alloc (.cells #[.string (bstr nm), .string (bstr (bs.take sy)), .int .i64 (sy : Int)] 95)).cell? ⟨wr.heap.size, o, none⟩ = A.cell? ⟨wr.heap.size, o, none⟩ := fun o => World.cell?_of_block (a := ⟨wr.heap.size, o, none⟩) (hbV.block _ hgA)
        have kw : ∀ o, w'.cell? ⟨wr.heap.size, o, none⟩ = A.cell? ⟨wr.heap.size, o, none⟩ := fun o => (World.cell?_of_block (a := ⟨wr.heap.size, o, none⟩) (hk' _ (Nat.lt_of_lt_of_le hgA hbV.size) (fun he => hnb _ he rfl))).trans (kv o)
        have m0 := (kv 0).trans f0
        have m1 := (kv 1).trans f1
        have m2 := (kv 2).trans f2
        have n0 := (kw 0).trans f0
        have n1 := (kw 1).trans f1
        have n2 := (kw 2).trans f2
        clear kv kw hk' hb' hbV hownA
        have HV : Hid _ := hv'
        clear hv'
        go_region_held3 (fun w' => w'.cell? ⟨wr.heap.size, 0, none⟩ = some (.string (bstr nm)) ∧ w'.cell? ⟨wr.heap.size, 1, none⟩ = some (.string (bstr bs)) ∧ w'.cell? ⟨wr.heap.size, 2, none⟩ = some (.int .i64 (sy : Int))) (first | with_reducible exact ⟨f0, f1, f2⟩ | with_reducible exact ⟨m0, m1, m2⟩ | with_reducible exact ⟨n0, n1, n2⟩ | go_keep)
          ((refine step_app_f (by rfl) _ _ (by rfl) _ _ (by rfl) (by rfl) _ _ hrun ?_))
        go_wp2
        go_roundw
        case rel => exact ⟨i + 1, by simp, hl, HV.out, hbW⟩
        case measure => simp [intOf]; omega
    · have hie : i = P.length := by omega
      have hc : ¬ ((i : Int) < (P.length : Int)) := by omega
      rw [hie, List.take_length] at hown
      obtain ⟨q', cap', rfl, hF, _⟩ := FArg.of_own hown
      have g0' := g0
      have g1' := g1
      obtain ⟨r0, r1, HR⟩ := hTr.fin hF 0
      clear hie hown hF g0' g1'
      go_wp2
      refine bodyPost_ret (v := rdV R q' (crP ks P).length cap') ?_ ?_ ?_
      · simp [results, Tryz.results25, go_sem, r0, r1]
      · rfl
      · obtain ⟨⟨q2, cap2, e2, hF2⟩, hb2⟩ := HR.out
        injection e2 with e2
        injection e2 with e2
        have e3 := congrArg (fun a : Array Value => a[0]?) e2
        simp at e3
        obtain ⟨rfl, rfl⟩ := e3
        exact ⟨q', cap', rfl, hF2, hb2⟩

end Go.Proofs.YtpldfakfgngaaaaGreatDoor

namespace Go.Proofs.YtpldfakfgngaaaaGreatDoor
open Go.RowKit

theorem srt_ext : ∀ {A B : List Fl}, Srt A → Srt B → (∀ x, x ∈ A ↔ x ∈ B) → A = B
  | [], [], _, _, _ => rfl
  | [], b :: B, _, _, h => by have := (h b).2 (by simp); cases this
  | a :: A, [], _, _, h => by have := (h a).1 (by simp); cases this
  | a :: A, b :: B, hA, hB, h => by
    obtain ⟨a1, a2⟩ := List.pairwise_cons.1 hA
    obtain ⟨b1, b2⟩ := List.pairwise_cons.1 hB
    have e : a = b := by
      rcases List.mem_cons.1 ((h a).1 (by simp)) with e | e
      · exact e
      · rcases List.mem_cons.1 ((h b).2 (by simp)) with e' | e'
        · exact e'.symm
        · exact absurd (lt_tr (b1 a e) (a1 b e')) (lt_irr _)
    subst e
    rw [srt_ext a2 b2 fun x => ?_]
    have hx := h x
    rw [List.mem_cons, List.mem_cons] at hx
    constructor
    · intro k
      rcases hx.1 (Or.inr k) with e | e
      · subst e; exact absurd (a1 x k) (lt_irr _)
      · exact e
    · intro k
      rcases hx.2 (Or.inr k) with e | e
      · subst e; exact absurd (b1 x k) (lt_irr _)
      · exact e
theorem find_Pu (s : List UInt8) (L : List Fl) : (Pu L).find? (fun f => f.1 == s) = (lk s L).map pu := by
  unfold Pu lk
  rw [List.find?_map]
  rfl
theorem isP_Pu (s : List UInt8) (L : List Fl) : isP s (Pu L) = (lk s L).isSome := by
  unfold isP
  rw [find_Pu]
  cases lk s L <;> rfl
theorem ofP_Pu (s : List UInt8) (L : List Fl) : (ofP s (Pu L)).2.1 = by_ (lk s L) ∧ ((ofP s (Pu L)).2.2 : Int) = sy (lk s L) ∧ (ofP s (Pu L)).2.2 = syN (lk s L) := by
  unfold ofP
  rw [find_Pu]
  cases lk s L <;> exact ⟨rfl, rfl, rfl⟩
theorem reP_Pu (s : List UInt8) (L : List Fl) : reP s (Pu L) = fc (lk s L) := by
  unfold reP
  rw [isP_Pu]
  cases lk s L <;> rfl
theorem okN_eq (s : List UInt8) : decide (1 ≤ s.length ∧ s.length ≤ 64) = okN s := by
  unfold okN
  exact Bool.decide_and (p := 0 < s.length) (q := s.length ≤ 64)
/-- Append. -/
theorem tie_app {L : List Fl} {f' : Fl} {s t : List UInt8} (h1 : f'.name = s) (h2 : f'.bytes = by_ (lk s L) ++ t) (h3 : f'.syn = syN (lk s L)) : wthP (s, (ofP s (Pu L)).2.1 ++ t, (ofP s (Pu L)).2.2) (Pu L) = Pu (wth f' L) := by
  obtain ⟨o1, _, o3⟩ := ofP_Pu s L
  rw [Pu_wth, o1, o3, ← h2, ← h3, ← h1]
  rfl
/-- Sync. -/
theorem tie_syn {L : List Fl} {s : List UInt8} (h : isP s (Pu L) = true) : wthP (s, (ofP s (Pu L)).2.1, (ofP s (Pu L)).2.1.length) (Pu L) = Pu (synL s L) := by
  obtain ⟨o1, _, _⟩ := ofP_Pu s L
  rw [isP_Pu] at h
  cases e : lk s L with
  | none => rw [e] at h; cases h
  | some f =>
    have hs : synL s L = wth { f with syn := f.bytes.length } L := by unfold synL; rw [e]
    rw [hs, Pu_wth, o1, e]
    have hn := (lk_some e).2
    rw [← hn]
    rfl
/-- Rename, to another name. -/
theorem tie_ren {L : List Fl} (hS : Srt L) {s t : List UInt8} {f : Fl} (e : lk s L = some f) : wthP (t, (ofP s (Pu L)).2.1, (ofP s (Pu L)).2.2) (wtoP s (Pu L)) = Pu (wth { f with name := t } (wto s (wto t L))) := by
  obtain ⟨o1, _, o3⟩ := ofP_Pu s L
  rw [o1, o3, e, ← Pu_wto]
  have h1 : wth { f with name := t } (wto s (wto t L)) = wth { f with name := t } (wto s L) := by
    refine srt_ext (wth_srt (wto_srt (wto_srt hS))) (wth_srt (wto_srt hS)) fun x => ?_
    rw [wth_mem (wto_srt (wto_srt hS)), wth_mem (wto_srt hS), wto_mem, wto_mem, wto_mem]
    constructor
    · rintro (h | ⟨⟨⟨a, _⟩, c⟩, d⟩)
      · exact Or.inl h
      · exact Or.inr ⟨⟨a, c⟩, d⟩
    · rintro (h | ⟨⟨a, c⟩, d⟩)
      · exact Or.inl h
      · exact Or.inr ⟨⟨⟨a, d⟩, c⟩, d⟩
  rw [h1, Pu_wth]
  rfl
/-- Rename, to the same name. -/
theorem tie_ren_same {L : List Fl} (hS : Srt L) {s : List UInt8} {f : Fl} (e : lk s L = some f) : wthP (s, (ofP s (Pu L)).2.1, (ofP s (Pu L)).2.2) (wtoP s (Pu L)) = Pu L := by
  obtain ⟨o1, _, o3⟩ := ofP_Pu s L
  obtain ⟨hm, hn⟩ := lk_some e
  rw [o1, o3, e, ← Pu_wto]
  have h1 : wth f (wto s L) = L := by
    refine srt_ext (wth_srt (wto_srt hS)) hS fun x => ?_
    rw [wth_mem (wto_srt hS), wto_mem]
    constructor
    · rintro (h | ⟨⟨a, _⟩, _⟩)
      · subst h; exact hm
      · exact a
    · intro hx
      by_cases h : x.name = s
      · exact Or.inl (srt_inj hS hx hm (by rw [h, hn]))
      · exact Or.inr ⟨⟨hx, h⟩, by rw [hn]; exact h⟩
  have h2 : Pu (wth f (wto s L)) = Pu L := by rw [h1]
  rw [Pu_wth] at h2
  rw [← h2, ← hn]
  rfl
/-- A loss of power. -/
theorem tie_crash {L L' : List Fl} {ks : List Int} (h : Cr ks L.length L L') : crP ks (Pu L) = Pu L' := by
  apply List.ext_getElem
  · rw [crP_len]
    simp [Pu, h.len]
  · intro j h1 h2
    have hj : j < L.length := by rw [crP_len] at h1; simpa [Pu] using h1
    obtain ⟨v', hv⟩ := h.old j hj hj
    simp only [crP, List.getElem_mapIdx, Pu, List.getElem_map]
    rw [hv]
    rfl
/-- The document's files stand where the disk does not reach. -/
theorem FArg.kp {w w' : World} {d m fr N : Nat} {L : List Fl} (h : Dk w d m L fr N) (hk : Kp w w' (Ft d m L)) {q : Option Addr} {cap : Nat} {P : List F3} (hP : FArg w q cap P) : FArg w' q cap P :=
  ⟨by
    rcases hP.or_ with h1 | ⟨b, off, h1, h2, h3⟩
    · exact Or.inl h1
    · obtain ⟨cur, hc⟩ := id h2
      have hb := hk.block b h2.lt (h.other hc ⟨by decide, by decide, by decide⟩)
      exact Or.inr ⟨b, off, h1, h2.block hb, fun i hi => (h3 i hi).block hb⟩, hP.le⟩

end Go.Proofs.YtpldfakfgngaaaaGreatDoor

namespace Go.Proofs.YtpldfakfgngaaaaGreatDoor
open Go.RowKit

/-- A step of the program: it answers x, and the files are P' behind it. -/
structure PA (w w' : World) (e : Ending) (d m : Nat) (L : List Fl) (fr N : Nat) (P' : List F3) (x : Int) (t : Nat) : Prop where
  out : e = .returned (.int .i64 x)
  go : ∃ L' fr', Stp w w' d m L L' fr' (N + 1) ∧ Pu L' = P' ∧ fr' + tot L' = fr + tot L ∧ tot L' ≤ tot L + t
theorem PA.same {w : World} {d m fr N : Nat} {L : List Fl} (h : Dk w d m L fr N) (x : Int) (t : Nat) : PA w w (.returned (.int .i64 x)) d m L fr N (Pu L) x t :=
  ⟨rfl, L, fr, ⟨h.mono (Nat.le_succ _), Kp.refl _ _, fun _ h => Or.inl h⟩, rfl, rfl, Nat.le_add_right _ _⟩

def apA (R : Nat) (s t : List UInt8) (P : List F3) : List F3 × Int := if okN s = false then (P, 2) else if R - totP P < t.length then (P, 7) else (wthP (s, (ofP s P).2.1 ++ t, (ofP s P).2.2) P, 0)
theorem apA_arg {R : Nat} {s t : List UInt8} {P : List F3} (h : okN s = false) : apA R s t P = (P, 2) := by simp [apA, h]
theorem apA_full {R : Nat} {s t : List UInt8} {P : List F3} (h : okN s = true) (hf : R - totP P < t.length) : apA R s t P = (P, 7) := by simp [apA, h, hf]
theorem apA_ok {R : Nat} {s t : List UInt8} {P : List F3} (h : okN s = true) (hf : ¬ R - totP P < t.length) : apA R s t P = (wthP (s, (ofP s P).2.1 ++ t, (ofP s P).2.2) P, 0) := by simp [apA, h, hf]
theorem RApp_all (R cap : Nat) (q : Option Addr) (P : List F3) (s t : List UInt8) (w : World) (hP : FArg w q cap P) (hs : SrtP P) (hn : P.length ≤ 1000000) (hl : s.length ≤ 9223372036854775807) (hR : R ≤ 9223372036854775807) (ht : totP P ≤ R) (hc : (ofP s P).2.1.length + t.length ≤ 9223372036854775807) :
    Calls Tryz.prog 36 #[rdV R q P.length cap, .string (bstr s), .string (bstr t)] w fun e w' => RA w w' e R (apA R s t P).1 (apA R s t P).2 := by
  cases hok : okN s with
  | false => rw [apA_arg hok]; exact RAppend_arg R cap q P s t w hP hl (by rw [okN_eq, hok])
  | true =>
    by_cases hf : R - totP P < t.length
    · rw [apA_full hok hf]; exact RAppend_full R cap q P s t w hP hn hl (by rw [okN_eq, hok]) hR ht (by omega)
    · rw [apA_ok hok hf]; exact RAppend_ok R cap q P s t w hP hs hn hl (by rw [okN_eq, hok]) hR ht (by omega) hc
theorem App_all {d m fr N : Nat} {L : List Fl} (s t : List UInt8) (w : World) (h : Dk w d m L fr N) (hfit : fr + tot L ≤ 9223372036854775807) (hb : tot L + t.length ≤ 140737488355328) (hN : N < maxLen) :
    Calls Tryz.prog 31 #[.pointer (some ⟨d, 0, none⟩), .string (bstr s), .string (bstr t)] w fun e w' => PA w w' e d m L fr N (apA (fr + tot L) s t (Pu L)).1 (apA (fr + tot L) s t (Pu L)).2 t.length := by
  have hR : fr + tot L - totP (Pu L) = fr := by rw [totP_Pu]; omega
  cases hok : okN s with
  | false =>
    rw [apA_arg hok]
    refine (Append_arg s t w h hok).mono ?_
    rintro e w' ⟨rfl, rfl⟩
    exact PA.same h _ _
  | true =>
    by_cases hf : fr < t.length
    · rw [apA_full hok (by rw [hR]; exact hf)]
      refine (Append_full s t w h hok hf).mono ?_
      rintro e w' ⟨rfl, rfl⟩
      exact PA.same h _ _
    · rw [apA_ok hok (by rw [hR]; exact hf)]
      refine (Append_ok s t w h hok (by omega) hb (by omega) hN).mono ?_
      rintro e w' ⟨rfl, f', n1, b1, s1, hS⟩
      have ht := tot_app h.srt n1 b1
      exact ⟨rfl, _, _, hS, (tie_app n1 b1 s1).symm, by omega, by omega⟩

def syA (s : List UInt8) (P : List F3) : List F3 × Int := if isP s P = true then (wthP (s, (ofP s P).2.1, (ofP s P).2.1.length) P, 0) else (P, 5)
theorem RSyn_all (R cap : Nat) (q : Option Addr) (P : List F3) (s : List UInt8) (w : World) (hP : FArg w q cap P) (hs : SrtP P) (hn : P.length ≤ 1000000) (hb : (ofP s P).2.1.length ≤ 9223372036854775807) :
    Calls Tryz.prog 57 #[rdV R q P.length cap, .string (bstr s)] w fun e w' => RA w w' e R (syA s P).1 (syA s P).2 := by
  cases hi : isP s P with
  | false => simp only [syA, hi, Bool.false_eq_true, if_false]; exact RSync_none R cap q P s w hP hs hn hi
  | true => simp only [syA, hi, if_true]; exact RSync_ok R cap q P s w hP hs hn hi hb
theorem Syn_all {d m fr N : Nat} {L : List Fl} (s : List UInt8) (t : Nat) (w : World) (h : Dk w d m L fr N) (hl : s.length ≤ maxLen) :
    Calls Tryz.prog 58 #[.pointer (some ⟨d, 0, none⟩), .string (bstr s)] w fun e w' => PA w w' e d m L fr N (syA s (Pu L)).1 (syA s (Pu L)).2 t := by
  refine (Sync_any s w h hl).mono ?_
  rintro e w' ⟨rfl, hS⟩
  cases e : lk s L with
  | none =>
    have hi : isP s (Pu L) = false := by rw [isP_Pu, e]; rfl
    have hL : synL s L = L := by simp [synL, e]
    rw [hL] at hS
    simp only [syA, hi, Bool.false_eq_true, if_false]
    exact ⟨rfl, L, fr, ⟨hS.dk.mono (Nat.le_succ _), hS.kp, hS.ft⟩, rfl, rfl, Nat.le_add_right _ _⟩
  | some f =>
    have hi : isP s (Pu L) = true := by rw [isP_Pu, e]; rfl
    have ht : tot (synL s L) = tot L := by
      obtain ⟨_, rfl⟩ := lk_some e
      have := tot_wth_old (f := { f with syn := f.bytes.length }) (o := f) h.srt e
      have h2 : ({ f with syn := f.bytes.length } : Fl).bytes.length = f.bytes.length := rfl
      have h3 : synL f.name L = wth { f with syn := f.bytes.length } L := by unfold synL; rw [e]
      rw [h3]
      omega
    simp only [syA, hi, if_true]
    exact ⟨rfl, _, _, ⟨hS.dk.mono (Nat.le_succ _), hS.kp, hS.ft⟩, (tie_syn hi).symm, by rw [ht], by omega⟩

def rmA (s : List UInt8) (P : List F3) : List F3 × Int := if isP s P = true then (wtoP s P, 0) else (P, 5)
theorem RRem_all (R cap : Nat) (q : Option Addr) (P : List F3) (s : List UInt8) (w : World) (hP : FArg w q cap P) (hs : SrtP P) (hn : P.length ≤ 1000000) :
    Calls Tryz.prog 42 #[rdV R q P.length cap, .string (bstr s)] w fun e w' => RA w w' e R (rmA s P).1 (rmA s P).2 := by
  cases hi : isP s P with
  | false => simp only [rmA, hi, Bool.false_eq_true, if_false]; exact RRemove_none R cap q P s w hP hs hn hi
  | true => simp only [rmA, hi, if_true]; exact RRemove_ok R cap q P s w hP hs hn hi
theorem Rem_all {d m fr N : Nat} {L : List Fl} (s : List UInt8) (t : Nat) (w : World) (h : Dk w d m L fr N) (hl : s.length ≤ maxLen) (hfit : fr + tot L ≤ 9223372036854775807) :
    Calls Tryz.prog 59 #[.pointer (some ⟨d, 0, none⟩), .string (bstr s)] w fun e w' => PA w w' e d m L fr N (rmA s (Pu L)).1 (rmA s (Pu L)).2 t := by
  refine (Remove_any s w h hl hfit).mono ?_
  rintro e w' ⟨rfl, hS⟩
  cases e : lk s L with
  | none =>
    have hi : isP s (Pu L) = false := by rw [isP_Pu, e]; rfl
    rw [wto_none e, e] at hS
    simp only [rmA, hi, Bool.false_eq_true, if_false]
    exact ⟨rfl, L, fr, ⟨hS.dk.mono (Nat.le_succ _), hS.kp, hS.ft⟩, rfl, rfl, Nat.le_add_right _ _⟩
  | some f =>
    have hi : isP s (Pu L) = true := by rw [isP_Pu, e]; rfl
    have ht := tot_wto h.srt e
    rw [e] at hS
    simp only [rmA, hi, if_true]
    exact ⟨rfl, _, _, ⟨hS.dk.mono (Nat.le_succ _), hS.kp, hS.ft⟩, Pu_wto s L, by simp only [by_]; omega, by omega⟩

def rnA (s t : List UInt8) (P : List F3) : List F3 × Int := if isP s P = true then (if okN t = true then (wthP (t, (ofP s P).2.1, (ofP s P).2.2) (wtoP s P), 0) else (P, 2)) else (P, 5)
theorem RRen_all (R cap : Nat) (q : Option Addr) (P : List F3) (s t : List UInt8) (w : World) (hP : FArg w q cap P) (hs : SrtP P) (hn : P.length ≤ 1000000) (hl : t.length ≤ 9223372036854775807) :
    Calls Tryz.prog 82 #[rdV R q P.length cap, .string (bstr s), .string (bstr t)] w fun e w' => RA w w' e R (rnA s t P).1 (rnA s t P).2 := by
  cases hi : isP s P with
  | false => simp only [rnA, hi, Bool.false_eq_true, if_false]; exact RRename_none R cap q P s t w hP hs hn hi
  | true =>
    cases hok : okN t with
    | false => simp only [rnA, hi, hok, if_true, Bool.false_eq_true, if_false]; exact RRename_arg R cap q P s t w hP hs hn hi hl (by rw [okN_eq, hok])
    | true => simp only [rnA, hi, hok, if_true]; exact RRename_ok R cap q P s t w hP hs hn hi hl (by rw [okN_eq, hok])
theorem Ren_all {d m fr N : Nat} {L : List Fl} (s t : List UInt8) (u : Nat) (w : World) (h : Dk w d m L fr N) (hl : s.length ≤ maxLen) (hfit : fr + tot L ≤ 9223372036854775807) (hN : N < maxLen) :
    Calls Tryz.prog 74 #[.pointer (some ⟨d, 0, none⟩), .string (bstr s), .string (bstr t)] w fun e w' => PA w w' e d m L fr N (rnA s t (Pu L)).1 (rnA s t (Pu L)).2 u := by
  cases e : lk s L with
  | none =>
    have hi : isP s (Pu L) = false := by rw [isP_Pu, e]; rfl
    simp only [rnA, hi, Bool.false_eq_true, if_false]
    refine (Rename_none s t w h hl e).mono ?_
    rintro e w' ⟨rfl, rfl⟩
    exact PA.same h _ _
  | some f =>
    have hi : isP s (Pu L) = true := by rw [isP_Pu, e]; rfl
    cases hok : okN t with
    | false =>
      simp only [rnA, hi, hok, if_true, Bool.false_eq_true, if_false]
      refine (Rename_arg s t w h hl e hok).mono ?_
      rintro e w' ⟨rfl, rfl⟩
      exact PA.same h _ _
    | true =>
      simp only [rnA, hi, hok, if_true]
      by_cases hst : s = t
      · subst hst
        rw [tie_ren_same h.srt e]
        refine (Rename_same s w h hl e).mono ?_
        rintro e w' ⟨rfl, rfl⟩
        exact PA.same h _ _
      · rw [tie_ren h.srt e]
        refine (Rename_ok s t w h hl e hst hok hfit hN).mono ?_
        rintro e' w' ⟨rfl, hS⟩
        have ht := tot_ren h.srt e hst
        exact ⟨rfl, _, _, hS, rfl, by omega, by omega⟩

end Go.Proofs.YtpldfakfgngaaaaGreatDoor

