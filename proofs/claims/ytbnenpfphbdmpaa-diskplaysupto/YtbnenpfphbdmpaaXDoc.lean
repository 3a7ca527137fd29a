/-
  The contracts of the document's Append, Sync, Read, Rename, Remove.
-/
import Derived.Test.YtbnenpfphbdmpaaXOf
namespace Go.Proofs.Ytbnenpfphbdmpaa
open Go.RowKit
attribute [local go_sem] size_bstr toList_bstr append_bstr

/-- What a call that answers a disk and a number leaves. -/
structure RA (w w' : World) (e : Ending) (R : Nat) (P : List F3) (x : Int) : Prop where
  out : ∃ q cap, e = .returned (.tuple #[rdV R q P.length cap, .int .i64 x]) ∧ FArg w' q cap P
  bel : Below w.heap.size w w'
/-- Two blocks that a call makes for its disk and its answer. -/
theorem two_blocks (w : World) (R : Nat) (q : Option Addr) (n cap : Nat) :
    Below w.heap.size w ((w.alloc (.cells #[.int .i64 (R : Int), .slice q n cap] 27)).alloc (.cells #[.int .i64 0, .slice none 0 0] 27)) ∧
    ((w.alloc (.cells #[.int .i64 (R : Int), .slice q n cap] 27)).alloc (.cells #[.int .i64 0, .slice none 0 0] 27)).heap[w.heap.size]? = some (.cells #[.int .i64 (R : Int), .slice q n cap] 27 (0, 0)) ∧
    ((w.alloc (.cells #[.int .i64 (R : Int), .slice q n cap] 27)).alloc (.cells #[.int .i64 0, .slice none 0 0] 27)).heap[w.heap.size + 1]? = some (.cells #[.int .i64 0, .slice none 0 0] 27 (0, 0)) :=
  ⟨((Below.refl _ _).alloc (Nat.le_refl _) _).alloc (by simp) _, ((MapKept.heap_alloc _ _).2 w.heap.size (by simp)).trans (boxed w _ _ _), by
    have := heap_alloc_new (w.alloc (.cells #[.int .i64 (R : Int), .slice q n cap] 27)) (.cells #[.int .i64 0, .slice none 0 0] 27 (0, 0))
    simpa using this⟩

/-- Where the files lie is none of the two blocks: these hold no text ahead. -/
theorem farg_apart {W : World} {q : Option Addr} {cap : Nat} {P : List F3} (h : FArg W q cap P) {g : Nat} {cs : Array Value} (hg : W.heap[g]? = some (.cells cs 27 (0, 0))) (x y : Value) : FArg (set2 W g x y) q cap P :=
  h.set2 (fun b off hq he => by
    subst he
    rcases h.or_ with ⟨h1, _⟩ | ⟨b', off', h1, ⟨cur, h2⟩, _⟩
    · rw [hq] at h1; cases h1
    · rw [hq] at h1
      cases h1
      rw [hg] at h2
      injection h2 with h2
      injection h2 with _ h2
      exact absurd h2 (by decide)) x y
structure Two (w W : World) (R : Nat) (q : Option Addr) (n cap : Nat) : Prop where
  bel : Below w.heap.size w W
  b0 : W.heap[w.heap.size]? = some (.cells #[.int .i64 (R : Int), .slice q n cap] 27 (0, 0))
  b1 : W.heap[w.heap.size + 1]? = some (.cells #[.int .i64 0, .slice none 0 0] 27 (0, 0))
theorem Two.step {w W W' : World} {R : Nat} {q : Option Addr} {n cap : Nat} (h : Two w W R q n cap) (hb : Below W.heap.size W W') : Two w W' R q n cap :=
  ⟨b_step h.bel hb (Nat.le_refl _), (hb.block _ (Array.getElem?_eq_some_iff.1 h.b0).1).trans h.b0, (hb.block _ (Array.getElem?_eq_some_iff.1 h.b1).1).trans h.b1⟩
theorem Two.facts {w W : World} {R : Nat} {q : Option Addr} {n cap : Nat} (h : Two w W R q n cap) : W.cell? ⟨w.heap.size, 0, none⟩ = some (.int .i64 (R : Int)) ∧ W.cell? ⟨w.heap.size, 1, none⟩ = some (.slice q n cap) ∧ W.cell? ⟨w.heap.size + 1, 0, none⟩ = some (.int .i64 0) ∧ W.cell? ⟨w.heap.size + 1, 1, none⟩ = some (.slice none 0 0) ∧ W.frozen? ⟨w.heap.size + 1, 0, none⟩ = false ∧ W.frozen? ⟨w.heap.size + 1, 1, none⟩ = false :=
  ⟨(cells_block h.b0).1 0, (cells_block h.b0).1 1, (cells_block h.b1).1 0, (cells_block h.b1).1 1, (cells_block h.b1).2 0, (cells_block h.b1).2 1⟩
theorem Two.fin {w W : World} {R : Nat} {q : Option Addr} {n cap : Nat} (h : Two w W R q n cap) {q' : Option Addr} {cap' : Nat} {P' : List F3} (hF : FArg W q' cap' P') (x : Int) :
    (set2 W (w.heap.size + 1) (.int .i64 (R : Int)) (.slice q' P'.length cap')).cell? ⟨w.heap.size + 1, 0, none⟩ = some (.int .i64 (R : Int)) ∧ (set2 W (w.heap.size + 1) (.int .i64 (R : Int)) (.slice q' P'.length cap')).cell? ⟨w.heap.size + 1, 1, none⟩ = some (.slice q' P'.length cap') ∧
    Hid (RA w (set2 W (w.heap.size + 1) (.int .i64 (R : Int)) (.slice q' P'.length cap')) (.returned (.tuple #[rdV R q' P'.length cap', .int .i64 x])) R P' x) := by
  have hz := cells_block (set2_block h.b1 (.int .i64 (R : Int)) (.slice q' P'.length cap'))
  exact ⟨hz.1 0, hz.1 1, ⟨⟨q', cap', rfl, farg_apart hF h.b1 _ _⟩, set2_below h.bel (Nat.le_succ _) _ _⟩⟩

set_option maxHeartbeats 2000000 in
set_option maxRecDepth 100000 in
theorem RAppend_arg (R cap : Nat) (q : Option Addr) (P : List F3) (s t : List UInt8) (w : World) (hP : FArg w q cap P) (hl : s.length ≤ 9223372036854775807) (hok : decide (1 ≤ s.length ∧ s.length ≤ 64) = false) :
    Calls Try.prog 26 #[rdV R q P.length cap, .string (bstr s), .string (bstr t)] w fun e w' => RA w w' e R (P) 2 := by
  obtain ⟨hb0, b0, b1⟩ := two_blocks w R q P.length cap
  have hT : Two w _ R q P.length cap := ⟨hb0, b0, b1⟩
  have hP0 := hP.below hb0
  clear b0 b1
  go_enter Try.func26, Try.ntmps26
  go_wp2_with fail
  generalize (w.alloc (.cells #[.int .i64 (R : Int), .slice q P.length cap] 27)).alloc (.cells #[.int .i64 0, .slice none 0 0] 27) = W at *
  refine (Rname_any s _ hl).mono ?_
  rintro e _ ⟨rfl, rfl⟩
  rw [hok]
  obtain ⟨c0, c1, g0, g1, d0, d1⟩ := hT.facts
  obtain ⟨r0, r1, HR⟩ := hT.fin hP0 2
  go_wp2_with fail
  go_wp2
  refine bodyPost_ret (v := .tuple #[rdV R q P.length cap, .int .i64 2]) ?_ ?_ ?_
  · simp [results, Try.results26, go_sem, r0, r1]
  · rfl
  · exact HR.out

set_option maxHeartbeats 2000000 in
set_option maxRecDepth 100000 in
theorem RAppend_full (R cap : Nat) (q : Option Addr) (P : List F3) (s t : List UInt8) (w : World) (hP : FArg w q cap P) (hn : P.length ≤ 1000000) (hl : s.length ≤ 9223372036854775807) (hok : decide (1 ≤ s.length ∧ s.length ≤ 64) = true) (hR : R ≤ 9223372036854775807) (ht : totP P ≤ R) (hf : ((R - totP P : Nat) : Int) < (t.length : Int)) :
    Calls Try.prog 26 #[rdV R q P.length cap, .string (bstr s), .string (bstr t)] w fun e w' => RA w w' e R (P) 7 := by
  obtain ⟨hb0, b0, b1⟩ := two_blocks w R q P.length cap
  have hT : Two w _ R q P.length cap := ⟨hb0, b0, b1⟩
  have hP0 := hP.below hb0
  clear b0 b1
  go_enter Try.func26, Try.ntmps26
  go_wp2_with fail
  generalize (w.alloc (.cells #[.int .i64 (R : Int), .slice q P.length cap] 27)).alloc (.cells #[.int .i64 0, .slice none 0 0] 27) = W at *
  refine (Rname_any s _ hl).mono ?_
  rintro e _ ⟨rfl, rfl⟩
  rw [hok]
  obtain ⟨c0, c1, g0, g1, d0, d1⟩ := hT.facts
  go_wp2_with fail
  refine (RFree_any R cap q P _ hP0 hn hR ht).mono ?_
  rintro e w2 ⟨rfl, hb2⟩
  have hT2 := hT.step hb2
  have hP2 := hP0.below hb2
  generalize R - totP P = fr at *
  clear c0 c1 g0 g1 d0 d1
  obtain ⟨c0, c1, g0, g1, d0, d1⟩ := hT2.facts
  obtain ⟨r0, r1, HR⟩ := hT2.fin hP2 7
  go_wp2_with fail
  go_wp2
  refine bodyPost_ret (v := .tuple #[rdV R q P.length cap, .int .i64 7]) ?_ ?_ ?_
  · simp [results, Try.results26, go_sem, r0, r1]
  · rfl
  · exact HR.out

set_option maxHeartbeats 2000000 in
set_option maxRecDepth 100000 in
theorem RAppend_ok (R cap : Nat) (q : Option Addr) (P : List F3) (s t : List UInt8) (w : World) (hP : FArg w q cap P) (hs : SrtP P) (hn : P.length ≤ 1000000) (hl : s.length ≤ 9223372036854775807) (hok : decide (1 ≤ s.length ∧ s.length ≤ 64) = true) (hR : R ≤ 9223372036854775807) (ht : totP P ≤ R) (hf : ¬ ((R - totP P : Nat) : Int) < (t.length : Int)) (hc : (ofP s P).2.1.length + t.length ≤ 9223372036854775807) :
    Calls Try.prog 26 #[rdV R q P.length cap, .string (bstr s), .string (bstr t)] w fun e w' => RA w w' e R (wthP (s, (ofP s P).2.1 ++ t, (ofP s P).2.2) P) 0 := by
  obtain ⟨hb0, b0, b1⟩ := two_blocks w R q P.length cap
  have hT : Two w _ R q P.length cap := ⟨hb0, b0, b1⟩
  have hP0 := hP.below hb0
  clear b0 b1
  go_enter Try.func26, Try.ntmps26
  go_wp2_with fail
  generalize (w.alloc (.cells #[.int .i64 (R : Int), .slice q P.length cap] 27)).alloc (.cells #[.int .i64 0, .slice none 0 0] 27) = W at *
  refine (Rname_any s _ hl).mono ?_
  rintro e _ ⟨rfl, rfl⟩
  rw [hok]
  obtain ⟨c0, c1, g0, g1, d0, d1⟩ := hT.facts
  go_wp2_with fail
  refine (RFree_any R cap q P _ hP0 hn hR ht).mono ?_
  rintro e w2 ⟨rfl, hb2⟩
  have hT2 := hT.step hb2
  have hP2 := hP0.below hb2
  generalize R - totP P = fr at *
  clear c0 c1 g0 g1 d0 d1
  obtain ⟨c0, c1, g0, g1, d0, d1⟩ := hT2.facts
  go_wp2_with fail
  refine (ROf_any R cap q P s _ hP2 hs hn).mono ?_
  rintro e w1 ⟨rfl, hbw1⟩
  generalize hof : ofP s P = f at *
  obtain ⟨nm, bs, sy⟩ := f
  have HOF : Hid _ := hof
  clear hof
  have halw1 := (Below.refl w1.heap.size w1).alloc (Nat.le_refl _) (.cells #[.string (bstr nm), .string (bstr bs), .int .i64 (sy : Int)] 35 (0, 0))
  have hbxw1 := heap_alloc_new w1 (.cells #[.string (bstr nm), .string (bstr bs), .int .i64 (sy : Int)] 35 (0, 0))
  have hT3 := (hT2.step hbw1).step halw1
  have hP3 := (hP2.below hbw1).below halw1
  have f1 := (cells_block hbxw1).1 1
  have f2 := (cells_block hbxw1).1 2
  clear c0 c1 g0 g1 d0 d1
  obtain ⟨c0, c1, g0, g1, d0, d1⟩ := hT3.facts
  go_wp2_with fail
  generalize w1.alloc (.cells #[.string (bstr nm), .string (bstr bs), .int .i64 (sy : Int)] 35) = V at *
  refine (Rwith_any R cap q P (s, bs ++ t, sy) _ hP3 hs hn).mono ?_
  rintro e w3 ⟨q', cap', rfl, hF, hb3⟩
  have hT4 := hT3.step hb3
  clear c0 c1 g0 g1 d0 d1
  obtain ⟨c0, c1, g0, g1, d0, d1⟩ := hT4.facts
  obtain ⟨r0, r1, HR⟩ := hT4.fin hF 0
  generalize hwp : wthP (s, bs ++ t, sy) P = P' at *
  have HWP : Hid _ := hwp
  clear hwp
  generalize P'.length = nl at *
  go_wp2
  refine bodyPost_ret (v := .tuple #[rdV R q' nl cap', .int .i64 0]) ?_ ?_ ?_
  · simp [results, Try.results26, go_sem, r0, r1]
  · rfl
  · rw [HOF.out]
    simp only
    rw [HWP.out]
    exact HR.out

set_option maxHeartbeats 2000000 in
set_option maxRecDepth 100000 in
theorem RSync_none (R cap : Nat) (q : Option Addr) (P : List F3) (s : List UInt8) (w : World) (hP : FArg w q cap P) (hs : SrtP P) (hn : P.length ≤ 1000000) (hi : isP s P = false) :
    Calls Try.prog 27 #[rdV R q P.length cap, .string (bstr s)] w fun e w' => RA w w' e R (P) 5 := by
  obtain ⟨hb0, b0, b1⟩ := two_blocks w R q P.length cap
  have hT : Two w _ R q P.length cap := ⟨hb0, b0, b1⟩
  have hP0 := hP.below hb0
  clear b0 b1
  go_enter Try.func27, Try.ntmps27
  go_wp2_with fail
  generalize (w.alloc (.cells #[.int .i64 (R : Int), .slice q P.length cap] 27)).alloc (.cells #[.int .i64 0, .slice none 0 0] 27) = W at *
  refine (ROf_any R cap q P s _ hP0 hs hn).mono ?_
  rintro e w1 ⟨rfl, hbw1⟩
  rw [hi]
  generalize hof : ofP s P = f at *
  obtain ⟨nm, bs, sy⟩ := f
  have HOF : Hid _ := hof
  clear hof
  have halw1 := (Below.refl w1.heap.size w1).alloc (Nat.le_refl _) (.cells #[.string (bstr nm), .string (bstr bs), .int .i64 (sy : Int)] 35 (0, 0))
  have hT1 := (hT.step hbw1).step halw1
  have hP1 := (hP0.below hbw1).below halw1
  obtain ⟨c0, c1, g0, g1, d0, d1⟩ := hT1.facts
  obtain ⟨r0, r1, HR⟩ := hT1.fin hP1 5
  go_wp2_with fail
  go_wp2
  refine bodyPost_ret (v := .tuple #[rdV R q P.length cap, .int .i64 5]) ?_ ?_ ?_
  · simp [results, Try.results27, go_sem, r0, r1]
  · rfl
  · exact HR.out

set_option maxHeartbeats 2000000 in
set_option maxRecDepth 100000 in
theorem RSync_ok (R cap : Nat) (q : Option Addr) (P : List F3) (s : List UInt8) (w : World) (hP : FArg w q cap P) (hs : SrtP P) (hn : P.length ≤ 1000000) (hi : isP s P = true) (hb : (ofP s P).2.1.length ≤ 9223372036854775807) :
    Calls Try.prog 27 #[rdV R q P.length cap, .string (bstr s)] w fun e w' => RA w w' e R (wthP (s, (ofP s P).2.1, (ofP s P).2.1.length) P) 0 := by
  obtain ⟨hb0, b0, b1⟩ := two_blocks w R q P.length cap
  have hT : Two w _ R q P.length cap := ⟨hb0, b0, b1⟩
  have hP0 := hP.below hb0
  clear b0 b1
  go_enter Try.func27, Try.ntmps27
  go_wp2_with fail
  generalize (w.alloc (.cells #[.int .i64 (R : Int), .slice q P.length cap] 27)).alloc (.cells #[.int .i64 0, .slice none 0 0] 27) = W at *
  refine (ROf_any R cap q P s _ hP0 hs hn).mono ?_
  rintro e w1 ⟨rfl, hbw1⟩
  rw [hi]
  generalize hof : ofP s P = f at *
  obtain ⟨nm, bs, sy⟩ := f
  have HOF : Hid _ := hof
  clear hof
  have halw1 := (Below.refl w1.heap.size w1).alloc (Nat.le_refl _) (.cells #[.string (bstr nm), .string (bstr bs), .int .i64 (sy : Int)] 35 (0, 0))
  have hbxw1 := heap_alloc_new w1 (.cells #[.string (bstr nm), .string (bstr bs), .int .i64 (sy : Int)] 35 (0, 0))
  have hT1 := (hT.step hbw1).step halw1
  have hP1 := (hP0.below hbw1).below halw1
  have f1 := (cells_block hbxw1).1 1
  have f2 := (cells_block hbxw1).1 2
  obtain ⟨c0, c1, g0, g1, d0, d1⟩ := hT1.facts
  go_wp2_with fail
  generalize w1.alloc (.cells #[.string (bstr nm), .string (bstr bs), .int .i64 (sy : Int)] 35) = V at *
  refine (Rwith_any R cap q P (s, bs, bs.length) _ hP1 hs hn).mono ?_
  rintro e w3 ⟨q', cap', rfl, hF, hb3⟩
  have hT3 := hT1.step hb3
  clear c0 c1 g0 g1 d0 d1
  obtain ⟨c0, c1, g0, g1, d0, d1⟩ := hT3.facts
  obtain ⟨r0, r1, HR⟩ := hT3.fin hF 0
  generalize hwp : wthP (s, bs, bs.length) P = P' at *
  have HWP : Hid _ := hwp
  clear hwp
  generalize P'.length = nl at *
  go_wp2
  refine bodyPost_ret (v := .tuple #[rdV R q' nl cap', .int .i64 0]) ?_ ?_ ?_
  · simp [results, Try.results27, go_sem, r0, r1]
  · rfl
  · rw [HOF.out]
    simp only
    rw [HWP.out]
    exact HR.out


end Go.Proofs.Ytbnenpfphbdmpaa
