/-
  The contracts of the document's without, Of, name, New.
-/
import Derived.Test.YtbnenpfphbdmpaaXWith
namespace Go.Proofs.Ytbnenpfphbdmpaa
open Go.RowKit
attribute [local go_sem] size_bstr toList_bstr append_bstr

theorem wtoP_succ {P : List F3} {i : Nat} (h : i < P.length) (s : List UInt8) : wtoP s (P.take (i + 1)) = wtoP s (P.take i) ++ (if P[i].1 = s then [] else [P[i]]) := by
  unfold wtoP
  rw [List.take_succ_eq_append_getElem h, List.filter_append]
  congr 1
  by_cases hs : P[i].1 = s <;> simp [hs]
theorem wtoP_len (s : List UInt8) (P : List F3) : (wtoP s P).length ≤ P.length := List.length_filter_le _ _
/-- A name's file, or none. -/
def ofP (s : List UInt8) (P : List F3) : F3 := (P.find? (fun f => f.1 == s)).getD ([], [], 0)
theorem ofP_at {s : List UInt8} : ∀ {P : List F3}, SrtP P → isP s P = true → ∃ h : posP s P < P.length, P[posP s P] = ofP s P
  | [], _, h => by cases h
  | f :: r, hs, h => by
    obtain ⟨h1, h2⟩ := List.pairwise_cons.1 hs
    have hi := posP_is (s := s) hs
    by_cases hf : f.1 < s
    · have e : posP s (f :: r) = posP s r + 1 := by simp [posP, hf]
      have hne : (f.1 == s) = false := by simpa using lt_ne hf
      have hr : isP s r = true := by simpa [isP, hne] using h
      obtain ⟨h3, h4⟩ := ofP_at h2 hr
      refine ⟨by rw [e]; simpa using h3, ?_⟩
      have e2 : ofP s (f :: r) = ofP s r := by unfold ofP; rw [List.find?_cons_of_neg (by simp [hne])]
      rw [e2, ← h4]
      simp only [e, List.getElem_cons_succ]
    · have e : posP s (f :: r) = 0 := by simp [posP, hf]
      rw [e, List.getElem?_cons_zero, h] at hi
      simp only at hi
      refine ⟨by rw [e]; simp, ?_⟩
      have e2 : ofP s (f :: r) = f := by unfold ofP; rw [List.find?_cons_of_pos (by rw [← hi])]; rfl
      rw [e2]
      simp only [e, List.getElem_cons_zero]
theorem ofP_none {s : List UInt8} {P : List F3} (h : isP s P = false) : ofP s P = ([], [], 0) := by
  unfold isP at h
  unfold ofP
  cases hf : P.find? (fun f => f.1 == s) with
  | none => rfl
  | some x => rw [hf] at h; cases h

set_option maxHeartbeats 2000000 in
set_option maxRecDepth 100000 in
theorem Rname_any (s : List UInt8) (w : World) (hn : s.length ≤ 9223372036854775807) :
    Calls Try.prog 42 #[.string (bstr s)] w fun e w' => e = .returned (.bool (decide (1 ≤ s.length ∧ s.length ≤ 64))) ∧ w' = w := by
  by_cases h1 : 1 ≤ s.length
  · have e : decide ((s.length : Int) ≤ 64) = decide (1 ≤ s.length ∧ s.length ≤ 64) := by rw [decide_eq_decide]; omega
    have e' : Hid (decide ((s.length : Int) ≤ 64) = decide (1 ≤ s.length ∧ s.length ≤ 64)) := e
    clear e
    go_enter Try.func42, Try.ntmps42
    go_wp2
    go_ret
    refine ⟨?_, rfl⟩
    rw [← e'.out]
    rfl
  · have e : decide (1 ≤ s.length ∧ s.length ≤ 64) = false := by simp [h1]
    have h2 : ¬ (1 : Int) ≤ (s.length : Int) := by omega
    rw [e]
    clear e h1
    go_enter Try.func42, Try.ntmps42
    go_wp2
    go_ret
    exact ⟨rfl, rfl⟩

set_option maxHeartbeats 2000000 in
set_option maxRecDepth 100000 in
theorem RNew_any (room : Int) (w : World) :
    Calls Try.prog 9 #[.int .i64 room] w fun e w' => e = .returned (rdV room.toNat none 0 0) ∧ Below w.heap.size w w' := by
  go_enter Try.func9, Try.ntmps9
  go_wp2
  have hmax : max room 0 = (room.toNat : Int) := by omega
  rw [hmax]
  refine bodyPost_ret (v := rdV room.toNat none 0 0) ?_ ?_ ?_
  · simp [results, Try.results9, go_sem]
  · rfl
  · exact ⟨rfl, (Below.refl _ _).alloc (Nat.le_refl _) _⟩

set_option maxHeartbeats 2000000 in
set_option maxRecDepth 100000 in
theorem Rwithout_any (R cap : Nat) (q : Option Addr) (P : List F3) (s : List UInt8) (w : World) (hP : FArg w q cap P) (hn : P.length ≤ 1000000) :
    Calls Try.prog 44 #[rdV R q P.length cap, .string (bstr s)] w fun e w' => ∃ q' cap', e = .returned (rdV R q' (wtoP s P).length cap') ∧ FArg w' q' cap' (wtoP s P) ∧ Below w.heap.size w w' := by
  have hb0 : Below w.heap.size w ((w.alloc (.cells #[.int .i64 (R : Int), .slice q P.length cap] 27)).alloc (.cells #[.int .i64 0, .slice none 0 0] 27)) := ((Below.refl _ _).alloc (Nat.le_refl _) _).alloc (by simp) _
  go_enter Try.func44, Try.ntmps44
  go_wp2_with fail
  have b0 : ((w.alloc (.cells #[.int .i64 (R : Int), .slice q P.length cap] 27)).alloc (.cells #[.int .i64 0, .slice none 0 0] 27)).heap[w.heap.size]? = some (.cells #[.int .i64 (R : Int), .slice q P.length cap] 27 (0, 0)) := ((MapKept.heap_alloc _ _).2 w.heap.size (by simp)).trans (boxed w _ _ _)
  have b1 : ((w.alloc (.cells #[.int .i64 (R : Int), .slice q P.length cap] 27)).alloc (.cells #[.int .i64 0, .slice none 0 0] 27)).heap[w.heap.size + 1]? = some (.cells #[.int .i64 0, .slice none 0 0] 27 (0, 0)) := by
    have := heap_alloc_new (w.alloc (.cells #[.int .i64 (R : Int), .slice q P.length cap] 27)) (.cells #[.int .i64 0, .slice none 0 0] 27 (0, 0))
    simpa using this
  have hP0 := hP.below hb0
  generalize (w.alloc (.cells #[.int .i64 (R : Int), .slice q P.length cap] 27)).alloc (.cells #[.int .i64 0, .slice none 0 0] 27) = W at *
  have hlt0 := (Array.getElem?_eq_some_iff.1 b0).1
  have hlt1 := (Array.getElem?_eq_some_iff.1 b1).1
  go_loopw [5, 6] (fun s5 s6 wr => ∃ i : Nat, s6 = .int .i64 (i : Int) ∧ i ≤ P.length ∧ wr.ownsRow W.heap.size 35 3 s5 (wtoP s (P.take i)).length (fcells (wtoP s (P.take i))) ∧ Below W.heap.size W wr) (fun _ s6 _ => P.length - (intOf s6).toNat)
  case atStart => exact ⟨0, rfl, Nat.zero_le _, World.ownsRow_nil _ _ _ _, Below.refl _ _⟩
  case round =>
    obtain ⟨i, rfl, hi, hown, hbr⟩ := hrel
    have k0 := cells_block ((hbr.block _ hlt0).trans b0)
    have c0 := k0.1 0
    have c1 := k0.1 1
    have k1 := (hbr.block _ hlt1).trans b1
    by_cases hl : i < P.length
    · have hPr := hP0.below hbr
      obtain ⟨b, off, rfl, _, hR⟩ := hPr.at_ (by omega)
      have hx := hR i hl
      have hst := wtoP_succ hl s
      have hlen := wtoP_len s (P.take i)
      have htk : (P.take i).length = i := by rw [List.length_take]; omega
      have hil : (i : Int) < (P.length : Int) := by omega
      generalize P[i] = x at *
      obtain ⟨nm, bs, sy⟩ := x
      obtain ⟨a0, a1, a2⟩ := hx
      simp only at a0 a1 a2 hst
      by_cases hnm : nm = s
      · subst hnm
        rw [if_pos rfl, List.append_nil] at hst
        have HS : Hid _ := hst
        clear hst
        go_wp2
        go_roundw
        case rel => exact ⟨i + 1, by simp, hl, by rw [HS.out]; exact hown, hbr⟩
        case measure => simp [intOf]; omega
      · rw [if_neg hnm] at hst
        have hnb : (nm == s) = false := by simpa using hnm
        have HS : Hid _ := hst
        clear hst
        go_wp2_with (at_builtin; refine wpList_append_f rfl _ _ rfl W.heap.size _ (wtoP s (P.take i)) rfl (hown.alloc _) _ 1 [(nm, bs, sy)] rfl (FArg.one _ (nm, bs, sy)) (by simp only [List.length_cons, List.length_nil]; omega) (by have := hbr.size; simp; omega) ?_; intro v1 w2 hv1 hb2)
        go_roundw
        case rel => exact ⟨i + 1, by simp, hl, by rw [HS.out]; exact hv1, (hbr.alloc hbr.size _).trans hb2⟩
        case measure => simp [intOf]; omega
    · have hie : i = P.length := by omega
      have hc : ¬ ((i : Int) < (P.length : Int)) := by omega
      rw [hie, List.take_length] at hown
      obtain ⟨q', cap', rfl, hF, hge⟩ := FArg.of_own hown
      have hz := cells_block (set2_block k1 (.int .i64 (R : Int)) (.slice q' (wtoP s P).length cap'))
      have hF' : Hid _ := hF.set2 (g := w.heap.size + 1) (fun b off hq => by have := hge b (by rw [hq]; rfl); omega) (.int .i64 (R : Int)) (.slice q' (wtoP s P).length cap')
      have hbw := set2_below (g := w.heap.size + 1) (b_step hb0 hbr (Nat.le_refl _)) (Nat.le_succ _) (.int .i64 (R : Int)) (.slice q' (wtoP s P).length cap')
      have r0 := hz.1 0
      have r1 := hz.1 1
      have g0 := (cells_block k1).1 0
      have g1 := (cells_block k1).1 1
      have d0 := (cells_block k1).2 0
      have d1 := (cells_block k1).2 1
      clear hie hown hF hge hz
      go_wp2
      refine bodyPost_ret (v := rdV R q' (wtoP s P).length cap') ?_ ?_ ?_
      · simp [results, Try.results44, go_sem, r0, r1]
      · rfl
      · exact ⟨q', cap', rfl, hF'.out, hbw⟩

/-- Three cells of a block of its own are written. -/
abbrev set3 (W : World) (g : Nat) (x y z : Value) : World := ((W.setCell ⟨g, 0, none⟩ x).setCell ⟨g, 1, none⟩ y).setCell ⟨g, 2, none⟩ z
theorem set3_block {W : World} {g : Nat} {a b c : Value} {t : TypeId} (h : W.heap[g]? = some (.cells #[a, b, c] t (0, 0))) (x y z : Value) : (set3 W g x y z).heap[g]? = some (.cells #[x, y, z] t (0, 0)) := by
  have h1 := block_set h 0 x
  have h2 := block_set h1 1 y
  have h3 := block_set h2 2 z
  exact h3
theorem set3_below {B : Nat} {w0 W : World} {g : Nat} (h : Below B w0 W) (hg : B ≤ g) (x y z : Value) : Below B w0 (set3 W g x y z) := ((h.setCell (p := ⟨g, 0, none⟩) hg x).setCell (p := ⟨g, 1, none⟩) hg y).setCell (p := ⟨g, 2, none⟩) hg z

set_option maxHeartbeats 2000000 in
set_option maxRecDepth 100000 in
theorem ROf_any (R cap : Nat) (q : Option Addr) (P : List F3) (s : List UInt8) (w : World) (hP : FArg w q cap P) (hs : SrtP P) (hn : P.length ≤ 1000000) :
    Calls Try.prog 11 #[rdV R q P.length cap, .string (bstr s)] w fun e w' => e = .returned (.tuple #[flV (ofP s P), .bool (isP s P)]) ∧ Below w.heap.size w w' := by
  have hb0 : Below w.heap.size w ((w.alloc (.cells #[.int .i64 (R : Int), .slice q P.length cap] 27)).alloc (.cells #[.string ⟨#[]⟩, .string ⟨#[]⟩, .int .i64 0] 35)) := ((Below.refl _ _).alloc (Nat.le_refl _) _).alloc (by simp) _
  go_enter Try.func11, Try.ntmps11
  go_wp2_with fail
  have b0 : ((w.alloc (.cells #[.int .i64 (R : Int), .slice q P.length cap] 27)).alloc (.cells #[.string ⟨#[]⟩, .string ⟨#[]⟩, .int .i64 0] 35)).heap[w.heap.size]? = some (.cells #[.int .i64 (R : Int), .slice q P.length cap] 27 (0, 0)) := ((MapKept.heap_alloc _ _).2 w.heap.size (by simp)).trans (boxed w _ _ _)
  have b1 : ((w.alloc (.cells #[.int .i64 (R : Int), .slice q P.length cap] 27)).alloc (.cells #[.string ⟨#[]⟩, .string ⟨#[]⟩, .int .i64 0] 35)).heap[w.heap.size + 1]? = some (.cells #[.string ⟨#[]⟩, .string ⟨#[]⟩, .int .i64 0] 35 (0, 0)) := by
    have := heap_alloc_new (w.alloc (.cells #[.int .i64 (R : Int), .slice q P.length cap] 27)) (.cells #[.string ⟨#[]⟩, .string ⟨#[]⟩, .int .i64 0] 35 (0, 0))
    simpa using this
  have hP0 := hP.below hb0
  generalize (w.alloc (.cells #[.int .i64 (R : Int), .slice q P.length cap] 27)).alloc (.cells #[.string ⟨#[]⟩, .string ⟨#[]⟩, .int .i64 0] 35) = W at *
  have hlt0 := (Array.getElem?_eq_some_iff.1 b0).1
  have hlt1 := (Array.getElem?_eq_some_iff.1 b1).1
  refine (Rfind_any R cap q P s _ hP0 hs hn).mono ?_
  rintro e w1 ⟨rfl, hb1⟩
  have hP1 := hP0.below hb1
  have k0 := cells_block ((hb1.block _ hlt0).trans b0)
  have c0 := k0.1 0
  have c1 := k0.1 1
  have k1 := (hb1.block _ hlt1).trans b1
  have g0 := (cells_block k1).1 0
  have g1 := (cells_block k1).1 1
  have g2 := (cells_block k1).1 2
  have d0 := (cells_block k1).2 0
  have d1 := (cells_block k1).2 1
  have d2 := (cells_block k1).2 2
  have hbw := b_step hb0 hb1 (Nat.le_refl _)
  cases hisn : isP s P with
  | false =>
    have HOF : Hid _ := ofP_none hisn
    have HIS : Hid _ := hisn
    have hz := cells_block (set3_block k1 (.string ⟨#[]⟩) (.string ⟨#[]⟩) (.int .i64 0))
    have hbz := set3_below (g := w.heap.size + 1) hbw (Nat.le_succ _) (.string ⟨#[]⟩) (.string ⟨#[]⟩) (.int .i64 0)
    have r0 := hz.1 0
    have r1 := hz.1 1
    have r2 := hz.1 2
    clear hisn hz
    go_wp2_with fail
    go_wp2
    refine bodyPost_ret (v := .tuple #[flV ([], [], 0), .bool false]) ?_ ?_ ?_
    · simp [results, Try.results11, go_sem, r0, r1, r2]; rfl
    · rfl
    · exact ⟨by rw [HOF.out, HIS.out], hbz⟩
  | true =>
    obtain ⟨hl, hof⟩ := ofP_at hs hisn
    obtain ⟨b, off, rfl, _, hR⟩ := hP1.at_ (by omega)
    have hx := hR _ hl
    have hil : (posP s P : Int) < (P.length : Int) := by omega
    have HOF : Hid (ofP s P = P[posP s P]) := hof.symm
    have HIS : Hid _ := hisn
    clear hof hisn
    generalize P[posP s P] = x at *
    generalize posP s P = p at *
    obtain ⟨nm, bs, sy⟩ := x
    obtain ⟨a0, a1, a2⟩ := hx
    simp only at a0 a1 a2
    have hz := cells_block (set3_block k1 (.string (bstr nm)) (.string (bstr bs)) (.int .i64 (sy : Int)))
    have hbz := set3_below (g := w.heap.size + 1) hbw (Nat.le_succ _) (.string (bstr nm)) (.string (bstr bs)) (.int .i64 (sy : Int))
    have r0 := hz.1 0
    have r1 := hz.1 1
    have r2 := hz.1 2
    clear hz
    go_wp2_with fail
    go_wp2
    refine bodyPost_ret (v := .tuple #[flV (nm, bs, sy), .bool true]) ?_ ?_ ?_
    · simp [results, Try.results11, go_sem, r0, r1, r2]
    · rfl
    · exact ⟨by rw [HOF.out, HIS.out], hbz⟩

end Go.Proofs.Ytbnenpfphbdmpaa
