/-
  The walk of the law SealScans over this seat's translation: it returns true, and of what was there nothing has turned.
-/
import Derived.Test.YtmimmbcchbmnbaaDoorRScan
import Derived.Test.YtmimmbcchbmnbaaDoorPartsWalk
namespace Go.Proofs.YtmimmbcchbmnbaaDoor
open Go.RowKit
attribute [local go_sem] size_bstr getElem_bstr toList_bstr append_bstr

theorem scn_length (k : Nat) (s : List UInt8) : 8 * (scn k s).length ≤ s.length := by
  induction k generalizing s with
  | zero => simp [scn]
  | succ k ih =>
    cases ho : opn s with
    | none => rw [scn_none ho]; simp
    | some b =>
      have h1 := opn_length ho
      have h2 := ih (s.drop (8 + b.length))
      rw [List.length_drop] at h2
      rw [scn_some ho, List.length_cons]
      omega
theorem heap_set {w : World} {g i : Nat} {u : Value} {cs : Array Value} {t : TypeId} {fr : Nat × Nat} (h : w.heap[g]? = some (.cells cs t fr)) : ∃ cs', (w.setCell ⟨g, i, none⟩ u).heap[g]? = some (.cells cs' t fr) ∧ cs'.size = cs.size := by
  refine ⟨cs.setIfInBounds i u, ?_, by simp⟩
  simp [World.setCell, Array.getElem?_modify, h]
theorem own_set {w : World} {B g i : Nat} {u v : Value} {e size n : Nat} {xs : List Value} (h : w.ownsRow B e size v n xs) (hg : g < B) : (w.setCell ⟨g, i, none⟩ u).ownsRow B e size v n xs := by
  rcases h.2 with h0 | ⟨k, cap, cur, hv, hbg, hk, hnc, hcm, hcs, htake⟩
  · exact ⟨h.1, .inl h0⟩
  · exact ⟨h.1, .inr ⟨k, cap, cur, hv, hbg, (Below.heap_setCell _ _ _ _ (by simp; omega)).trans hk, hnc, hcm, hcs, htake⟩⟩

set_option maxHeartbeats 2000000 in
set_option maxRecDepth 100000 in
theorem scans_walk (s : List UInt8) (w : World) (ht : Tabs w) (hs : s.length ≤ 1048576) :
    Calls Tryd.prog 5 #[.string (bstr s)] w fun e w' => e = .returned (.bool true) ∧ Below w.heap.size w w' := by
  have hE1 : (⟨#[120]⟩ : ByteArray) = bstr [120] := rfl
  have hnl : (scn s.length s).length ≤ 1048576 := by have := scn_length s.length s; omega
  have HSC := Scan_any s
  have HRS := RScan_any s
  generalize scn s.length s = bs at *
  generalize tot bs = N at *
  have HS1 : Hid _ := HSC
  have HS2 : Hid _ := HRS
  clear HSC HRS
  go_enter Tryd.func5, Tryd.ntmps5
  go_wp2_with fail
  refine (HS1.out _ (by omega) ht).mono ?_
  rintro e w1 ⟨v1, rfl, hown1, hb1⟩
  have ht1 := ht.below hb1
  go_wp2_with fail
  refine (HS2.out _ (by omega)).mono ?_
  rintro e w2 ⟨v2, rfl, hown2, hb2⟩
  have ht2 := ht1.below hb2
  have hown12 := own_below hown1 hb2
  have hw12 : w.heap.size ≤ w1.heap.size := hb1.size
  have hbw := bstep hb1 hb2
  have hsh2 := shows_of_owns hown2
  go_wp2_with fail
  refine (Same_any bs v1 v2 _ (by omega) (shows_of_owns hown12) hsh2).mono ?_
  rintro e w3 ⟨rfl, hb3⟩
  have hown13 := own_below hown12 hb3
  have hown23 := own_below hown2 hb3
  have ht3 := ht2.below hb3
  replace hbw := bstep hbw hb3
  have hlt1 : ∀ g, v1.ownBlock = some g → g < w1.heap.size := fun g hg => (hown1.lt g hg).2
  clear hb2 hown12 hown2 hsh2 hb3 ht2
  rcases hown13.2 with ⟨hv, h0⟩ | ⟨g, cap, cur, hv, hbg, hg, hnc, hcm, hcs, htake⟩
  · subst hv
    have hn0 : bs.length = 0 := h0
    go_wp2
    go_loopw [7] (fun vi wr => vi = .int .i64 0 ∧ wr.ownsRow w1.heap.size 9 1 v2 bs.length (strCells bs) ∧ Below w.heap.size w wr) (fun vi _ => (intOf vi).toNat)
    case atStart => exact ⟨rfl, hown23, hbw⟩
    case round =>
      obtain ⟨rfl, hown, hbel⟩ := hrel
      have htx := ht.below hbel
      go_wp2_with fail
      refine (HS1.out _ (by omega) htx).mono ?_
      rintro e w4 ⟨v3, rfl, hown3, hb4⟩
      have ht4 := htx.below hb4
      have hbel4 := bstep hbel hb4
      have hsh2 := shows_of_owns (own_below hown hb4)
      have hsh3 := shows_of_owns hown3
      clear hown hown3 hb4
      go_wp2_with fail
      refine (Same_any bs v3 v2 _ (by omega) hsh3 hsh2).mono ?_
      rintro e w5 ⟨rfl, hb5⟩
      have ht5 := ht4.below hb5
      have hbel5 := bstep hbel4 hb5
      clear hb5 hsh2 hsh3
      go_wp2_with fail
      refine (works_any _ ht5).mono ?_
      rintro e w6 ⟨rfl, hb6⟩
      have hbel6 := bstep hbel5 hb6
      go_wp2
      go_ret
      exact ⟨rfl, hbel6⟩
  · have hgl := hlt1 g (by rw [hv]; rfl)
    have hn1 : (strCells bs).length = bs.length := strCells_length bs
    subst hv
    go_wp2
    go_loopw [7] (fun vi wr => ∃ (i : Nat) (cs : Array Value), vi = .int .i64 i ∧ i ≤ bs.length ∧ wr.heap[g]? = some (.cells cs 9 (0, 0)) ∧ bs.length ≤ cs.size ∧ wr.ownsRow w1.heap.size 9 1 v2 bs.length (strCells bs) ∧ Below w.heap.size w wr) (fun vi _ => bs.length - (intOf vi).toNat)
    case atStart => exact ⟨0, cur, rfl, by omega, hg, by omega, hown23, hbw⟩
    case round =>
      obtain ⟨i, cs, rfl, hi, hgc, hcl, hown, hbel⟩ := hrel
      by_cases h : i < bs.length
      · have c1 : wr.cell? ⟨g, i, none⟩ = some (cs[i]'(by omega)) := by
          unfold World.cell?
          rw [hgc]
          simp [Array.getElem?_eq_getElem (show i < cs.size by omega)]
        have c2 : wr.frozen? ⟨g, i, none⟩ = false := by
          unfold World.frozen?
          rw [hgc]
          simp
        go_wp2
        go_roundw
        case rel =>
          obtain ⟨cs', hc1, hc2⟩ := heap_set (i := i) (u := .string (bstr [120])) hgc
          exact ⟨i + 1, cs', by go_num, by omega, hc1, by omega, own_set hown hgl, hbel.setCell hbg _⟩
        case measure => simp [intOf]; omega
      · have htx := ht.below hbel
        go_wp2_with fail
        refine (HS1.out _ (by omega) htx).mono ?_
        rintro e w4 ⟨v3, rfl, hown3, hb4⟩
        have ht4 := htx.below hb4
        have hbel4 := bstep hbel hb4
        have hsh2 := shows_of_owns (own_below hown hb4)
        have hsh3 := shows_of_owns hown3
        clear hown hown3 hb4
        go_wp2_with fail
        refine (Same_any bs v3 v2 _ (by omega) hsh3 hsh2).mono ?_
        rintro e w5 ⟨rfl, hb5⟩
        have ht5 := ht4.below hb5
        have hbel5 := bstep hbel4 hb5
        clear hb5 hsh2 hsh3
        go_wp2_with fail
        refine (works_any _ ht5).mono ?_
        rintro e w6 ⟨rfl, hb6⟩
        have hbel6 := bstep hbel5 hb6
        go_wp2
        go_ret
        exact ⟨rfl, hbel6⟩

end Go.Proofs.YtmimmbcchbmnbaaDoor
