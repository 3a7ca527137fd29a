/-
  sort.Search, and how many cells the first block takes.
  How many cells the first block takes.
  Blocks that are told, one by one, by an iterator, whatever is done meanwhile; the blocks that Write makes.
-/
import Derived.Test.YtmpnofbhbglfpaaGreatDoorGTFn2
import Derived.Test.YtmpnofbhbglfpaaGreatDoorGEFnd
import Derived.Lib.MinMax
namespace Go.Proofs.YtmpnofbhbglfpaaGreatDoor
open Go.RowKit
attribute [local go_sem] size_bstr getElem_bstr toList_bstr append_bstr

set_option maxHeartbeats 2000000 in
set_option maxRecDepth 100000 in
/-- sort.Search: of a question that is answered by F, whatever it does meanwhile to what J speaks of. -/
theorem Search_any (g : Nat) (lb : Array Value) (F : Nat → Bool) (n : Nat) (J : World → Prop) (w : World) (hn : n ≤ 1000000000) (eg : ∀ args w, (callFunc g args).run Tryz.prog w = .ok (.enter g args) w)
    (hf : ∀ (k : Nat) W, k < n → J W → Calls Tryz.prog g (#[.int .i64 (k : Int)] ++ lb) W fun e W' => e = .returned (.bool (F k)) ∧ J W') (hJ : J w) :
    Calls Tryz.prog 81 #[.int .i64 (n : Int), .func (.func g) #[] lb] w fun e w' => ∃ r : Nat, e = .returned (.int .i64 (r : Int)) ∧ r ≤ n ∧ (0 < r → F (r - 1) = false) ∧ (r < n → F r = true) ∧ J w' := by
  go_enter Tryz.func81, Tryz.ntmps81
  go_wp2
  have HF : Hid _ := hf
  clear hf
  go_loopw [5, 6] (fun vi vj wx => ∃ i j : Nat, vi = .int .i64 (i : Int) ∧ vj = .int .i64 (j : Int) ∧ i ≤ j ∧ j ≤ n ∧ Hid ((0 < i → F (i - 1) = false) ∧ (j < n → F j = true)) ∧ J wx) (fun vi vj _ => (intOf vj).toNat - (intOf vi).toNat)
  case atStart => exact ⟨0, n, rfl, rfl, by omega, by omega, ⟨fun h => by omega, fun h => by omega⟩, hJ⟩
  case round =>
    obtain ⟨i, j, rfl, rfl, hij, hjn, hF, hJx⟩ := hrel
    clear hJ
    by_cases hlt : i < j
    · obtain ⟨k, hk⟩ : ∃ k : Nat, k = (i + j) / 2 := ⟨_, rfl⟩
      have hki : ((i : Int) + (j : Int)) / 2 = (k : Int) := by omega
      have hcall := HF.out k wr (by omega) hJx
      have hgo : (i : Int) < (j : Int) := by omega
      have hkj : k < j := by omega
      have hik : i ≤ k := by omega
      clear hk
      cases hb : F k with
      | false =>
        rw [hb] at hcall
        go_wp2_with (first | (with_reducible refine hcall.mono ?_; rintro e w1 ⟨rfl, hJ1⟩))
        go_roundw
        case rel => exact ⟨k + 1, j, by go_num, rfl, by omega, hjn, ⟨fun _ => hb, hF.out.2⟩, hJ1⟩
        case measure => simp [intOf]; omega
      | true =>
        rw [hb] at hcall
        go_wp2_with (first | (with_reducible refine hcall.mono ?_; rintro e w1 ⟨rfl, hJ1⟩))
        go_roundw
        case rel => exact ⟨i, k, rfl, rfl, by omega, by omega, ⟨hF.out.1, fun _ => hb⟩, hJ1⟩
        case measure => simp [intOf]; omega
    · have hje : i = j := by omega
      subst hje
      go_wp2
      go_ret
      exact ⟨i, rfl, hjn, hF.out.1, hF.out.2, hJx⟩

/-- What the question 'is it full?' has captured: the cells, and how many bytes are asked. -/
structure FBx (w : World) (b : Nat) (v : Value) (m : Nat) : Prop where
  l : w.heap[b]? = some (.cells #[v] 22 (0, 0))
  m : w.heap[b + 1]? = some (.cells #[.int .i64 (m : Int)] 3 (0, 0))
theorem FBx.c0 {w : World} {b : Nat} {v : Value} {m : Nat} (h : FBx w b v m) : w.cell? ⟨b, 0, none⟩ = some v := (Bl.cells_block h.l).1 0
theorem FBx.below {w w' : World} {b : Nat} {v : Value} {m : Nat} (h : FBx w b v m) (hb : Below w.heap.size w w') : FBx w' b v m := ⟨(hb.block _ (blk_lt h.l)).trans h.l, (hb.block _ (blk_lt h.m)).trans h.m⟩

set_option maxHeartbeats 2000000 in
set_option maxRecDepth 100000 in
theorem full_any (q : Option Addr) (g off cap b : Nat) (L : List Cl) (m n : Nat) (w : World) (hq : q = some ⟨g, off, none⟩ ∧ CRow w g off L ∧ g < w.heap.size) (hB : FBx w b (.slice q L.length cap) m) (hok : okL L = true) (hm : m ≤ 32768) (hn : n ≤ L.length) (hc : L.length ≤ cap) (hL : L.length * 64 ≤ 140737488351232) :
    Calls Tryz.prog 105 #[.int .i64 (n : Int), .pointer (some ⟨b, 0, none⟩), .pointer (some ⟨b + 1, 0, none⟩)] w fun e w' => e = .returned (.bool (decide (m ≤ szB L n))) ∧ Below w.heap.size w w' := by
  have c0 : w.cell? ⟨b, 0, none⟩ = some (.slice q L.length cap) := (Bl.cells_block hB.l).1 0
  have c1 : w.cell? ⟨b + 1, 0, none⟩ = some (.int .i64 (m : Int)) := (Bl.cells_block hB.m).1 0
  have hbl := Build_any q g off cap (L.take n) w (fun _ => ⟨hq.1, fun j hj => (by have := hq.2.1 j (by rw [List.length_take] at hj; omega); rw [List.getElem_take]; exact this), hq.2.2⟩) (by rw [List.length_take]; omega)
  rw [List.length_take, Nat.min_eq_left hn] at hbl
  have hgl : (n : Int) ≤ (cap : Int) := by omega
  have hok' := okL_take n hok
  by_cases hz : szB L n ≤ 32768
  · obtain ⟨e1, e2⟩ := bld_ok hok' hz
    rw [e1, e2] at hbl
    have hlen : (blkB (L.take n)).length = szB L n := rfl
    generalize blkB (L.take n) = X at *
    clear hok' e1 e2 hok hB hq
    have HL : Hid _ := hlen
    clear hlen hz
    go_enter Tryz.func105, Tryz.ntmps105
    go_wp2_with (first | (go_at_call 49; refine hbl.mono ?_; rintro e w1 ⟨rfl, hb1⟩; have c2 : w1.cell? ⟨b + 1, 0, none⟩ = some (.int .i64 (m : Int)) := (by rw [(bcell hb1).1 _ _ (block_lt_of_cell c1)]; exact c1)))
    go_ret
    exact ⟨by rw [← HL.out]; rfl, hb1⟩
  · obtain ⟨e1, e2⟩ := bld_long hok' hz
    rw [e1, e2] at hbl
    rw [decide_eq_true (show m ≤ szB L n by omega)]
    clear hok' e1 e2 hok hB hq hz
    go_enter Tryz.func105, Tryz.ntmps105
    go_wp2_with (first | (go_at_call 49; refine hbl.mono ?_; rintro e w1 ⟨rfl, hb1⟩; have c2 : w1.cell? ⟨b + 1, 0, none⟩ = some (.int .i64 (m : Int)) := (by rw [(bcell hb1).1 _ _ (block_lt_of_cell c1)]; exact c1)))
    go_ret
    exact ⟨rfl, hb1⟩

/-- The question, as a value. -/
abbrev fullV (b : Nat) : Value := .func (.func 105) #[] #[.pointer (some ⟨b, 0, none⟩), .pointer (some ⟨b + 1, 0, none⟩)]
structure FBx2 (w : World) (b : Nat) (v : Value) (m : Nat) : Prop where
  f : FBx w b v m
  z : w.heap[b + 1 + 1]? = some (.cells #[fullV b] 132 (0, 0))
theorem FBx2.below {w w' : World} {b : Nat} {v : Value} {m : Nat} (h : FBx2 w b v m) (hb : Below w.heap.size w w') : FBx2 w' b v m := ⟨h.f.below hb, (hb.block _ (blk_lt h.z)).trans h.z⟩

set_option maxHeartbeats 2000000 in
set_option maxRecDepth 100000 in
theorem full2_any (q : Option Addr) (g off cap b : Nat) (L : List Cl) (m n : Nat) (w : World) (hq : q = some ⟨g, off, none⟩ ∧ CRow w g off L ∧ g < w.heap.size) (hB : FBx2 w b (.slice q L.length cap) m) (hok : okL L = true) (hm : m ≤ 32768) (hn : n + 1 ≤ L.length) (hc : L.length ≤ cap) (hL : L.length * 64 ≤ 140737488351232) :
    Calls Tryz.prog 106 #[.int .i64 (n : Int), .pointer (some ⟨b + 1 + 1, 0, none⟩)] w fun e w' => e = .returned (.bool (decide (m ≤ szB L (n + 1)))) ∧ Below w.heap.size w w' := by
  have c0 : w.cell? ⟨b + 1 + 1, 0, none⟩ = some (fullV b) := (Bl.cells_block hB.z).1 0
  have hfl := full_any q g off cap b L m (n + 1) w hq hB.f hok hm hn hc hL
  have hni : ((n + 1 : Nat) : Int) = (n : Int) + 1 := by omega
  rw [hni] at hfl
  clear hB hq hni
  go_enter Tryz.func106, Tryz.ntmps106
  go_wp2_with (first | (go_at_call 105; refine hfl.mono ?_; rintro e w1 ⟨rfl, hb1⟩))
  go_ret
  exact ⟨rfl, hb1⟩

theorem fil_search {L : List Cl} {m t r : Nat} (h1 : 1 ≤ t) (h2 : t ≤ L.length) (ht : t = L.length ∨ m ≤ szB L t) (hr : r ≤ t - 1) (ha : 0 < r → decide (m ≤ szB L (r - 1 + 1)) = false) (hb : r < t - 1 → decide (m ≤ szB L (r + 1)) = true) : n0 L m = r + 1 := by
  refine n0_uniq (by omega) (by omega) (by omega) (fun j hj1 hj2 => ?_) (fun h => ?_)
  · have h3 := of_decide_eq_false (ha (by omega))
    rw [show r - 1 + 1 = r by omega] at h3
    have := szB_mono L (i := j) (j := r) (by omega)
    omega
  · by_cases h4 : r < t - 1
    · exact of_decide_eq_true (hb h4)
    · have : r + 1 = t := by omega
      rw [this]
      rcases ht with ht | ht
      · omega
      · exact ht
theorem bld_take (q : Option Addr) (g off cap : Nat) (L : List Cl) (n : Nat) (w : World) (hq : q = some ⟨g, off, none⟩ ∧ CRow w g off L ∧ g < w.heap.size) (hn : n ≤ L.length) (hL : L.length * 64 ≤ 140737488351232) :
    Calls Tryz.prog 49 #[.slice q n cap] w fun e w' => e = .returned (.tuple #[.string (bstr (bldB (L.take n))), .int .i64 (bldE (L.take n))]) ∧ RowKit.Below w.heap.size w w' := by
  have hbl := Build_any q g off cap (L.take n) w (fun _ => ⟨hq.1, hq.2.1.take n, hq.2.2⟩) (by rw [List.length_take]; omega)
  rw [List.length_take, Nat.min_eq_left hn] at hbl
  exact hbl
theorem fil_eq {L : List Cl} {m n : Nat} (hok : okL L = true) (h : n0 L m = n) : (bldE (L.take n) = 0 ∧ fil L m = n) ∨ (bldE (L.take n) = 3 ∧ fil L m = n - 1) := by
  unfold fil
  rw [h]
  by_cases hz : szB L n ≤ 32768
  · exact Or.inl ⟨(bld_ok (okL_take n hok) hz).2, by rw [if_pos hz]⟩
  · exact Or.inr ⟨(bld_long (okL_take n hok) hz).2, by rw [if_neg hz]⟩

end Go.Proofs.YtmpnofbhbglfpaaGreatDoor

namespace Go.Proofs.YtmpnofbhbglfpaaGreatDoor
open Go.RowKit
attribute [local go_sem] size_bstr getElem_bstr toList_bstr append_bstr

set_option maxHeartbeats 4000000 in
set_option maxRecDepth 100000 in
theorem fill_any (q : Option Addr) (g off cap : Nat) (L : List Cl) (m : Nat) (w : World) (hq : q = some ⟨g, off, none⟩ ∧ CRow w g off L ∧ g < w.heap.size) (hok : okL L = true) (h0 : 0 < L.length) (hm : m ≤ 32768) (hc : L.length ≤ cap) (hL : L.length ≤ 1000000) :
    Calls Tryz.prog 61 #[.slice q L.length cap, .int .i64 (m : Int)] w fun e w' => e = .returned (.int .i64 (fil L m : Int)) ∧ Below w.heap.size w w' := by
  have hmf : ∀ (fn : Fn) (first cap : Array Value) (w : World), (Instr.makeFunc fn first cap).run Tryz.prog w = .ok (.func fn first cap) w := fun _ _ _ _ => rfl
  obtain ⟨rfl, hcr, hgl⟩ := hq
  obtain ⟨W0, hW0⟩ : ∃ W0, W0 = ((w.alloc (.cells #[.slice (some ⟨g, off, none⟩) L.length cap] 22)).alloc (.cells #[.int .i64 (m : Int)] 3)).alloc (.cells #[fullV w.heap.size] 132) := ⟨_, rfl⟩
  have hb0 : Below w.heap.size w W0 := by rw [hW0]; exact (((Below.refl _ _).alloc (Nat.le_refl _) _).alloc (by simp) _).alloc (by simp; omega) _
  have hF0 : FBx2 W0 w.heap.size (.slice (some ⟨g, off, none⟩) L.length cap) m := by
    rw [hW0]
    refine ⟨⟨?_, ?_⟩, ?_⟩
    · exact (Below.heap_alloc _ _ _ (by simp; omega)).trans ((Below.heap_alloc _ _ _ (by simp)).trans (heap_alloc_new w _))
    · refine (Below.heap_alloc _ _ _ (by simp)).trans ?_
      have := heap_alloc_new (w.alloc (.cells #[.slice (some ⟨g, off, none⟩) L.length cap] 22)) (.cells #[.int .i64 (m : Int)] 3)
      simpa using this
    · have := heap_alloc_new ((w.alloc (.cells #[.slice (some ⟨g, off, none⟩) L.length cap] 22)).alloc (.cells #[.int .i64 (m : Int)] 3)) (.cells #[fullV w.heap.size] 132)
      simpa using this
  have HFE := fun n (h : n0 L m = n) => fil_eq hok h
  have HFE2 : Hid _ := HFE
  clear HFE
  go_enter Tryz.func61, Tryz.ntmps61
  go_wp2_with fail
  rw [← hW0]
  clear hW0
  go_loopw [6] (fun vt wx => ∃ t : Nat, vt = .int .i64 (t : Int) ∧ 1 ≤ t ∧ t ≤ L.length ∧ Below w.heap.size w wx ∧ FBx2 wx w.heap.size (.slice (some ⟨g, off, none⟩) L.length cap) m) (fun vt _ => L.length - (intOf vt).toNat)
  case atStart => exact ⟨1, rfl, by omega, by omega, hb0, hF0⟩
  case round =>
    obtain ⟨t, rfl, hL0, hL1, hbx, hFx⟩ := hrel
    clear hb0 hF0
    have c0 : wr.cell? ⟨w.heap.size, 0, none⟩ = some (.slice (some ⟨g, off, none⟩) L.length cap) := hFx.f.c0
    have c1 : wr.cell? ⟨w.heap.size + 1 + 1, 0, none⟩ = some (fullV w.heap.size) := (Bl.cells_block hFx.z).1 0
    have hqx : some (⟨g, off, none⟩ : Addr) = some ⟨g, off, none⟩ ∧ CRow wr g off L ∧ g < wr.heap.size := ⟨rfl, hcr.step hbx hgl, Nat.lt_of_lt_of_le hgl hbx.size⟩
    have hfull := full_any (some ⟨g, off, none⟩) g off cap w.heap.size L m t wr hqx hFx.f hok hm hL1 hc (by omega)
    have HSE : ∀ W, Below w.heap.size w W → FBx2 W w.heap.size (.slice (some ⟨g, off, none⟩) L.length cap) m → Calls Tryz.prog 81 #[.int .i64 ((t : Int) - 1), .func (.func 106) #[] #[.pointer (some ⟨w.heap.size + 1 + 1, 0, none⟩)]] W fun e w' => ∃ r : Nat, e = .returned (.int .i64 (r : Int)) ∧ r ≤ t - 1 ∧ (0 < r → decide (m ≤ szB L (r - 1 + 1)) = false) ∧ (r < t - 1 → decide (m ≤ szB L (r + 1)) = true) ∧ Below w.heap.size w w' ∧ FBx2 w' w.heap.size (.slice (some ⟨g, off, none⟩) L.length cap) m := by
      intro W hbW hFW
      have := Search_any 106 #[.pointer (some ⟨w.heap.size + 1 + 1, 0, none⟩)] (fun k => decide (m ≤ szB L (k + 1))) (t - 1) (fun W => Below w.heap.size w W ∧ FBx2 W w.heap.size (.slice (some ⟨g, off, none⟩) L.length cap) m) W (by omega) (enters_of Tryz.func106 (by kernel_rfl) rfl) ?_ ⟨hbW, hFW⟩
      · rw [show ((t - 1 : Nat) : Int) = (t : Int) - 1 by omega] at this
        exact this
      · rintro k W1 hk ⟨hb1, hF1⟩
        refine (full2_any (some ⟨g, off, none⟩) g off cap w.heap.size L m k W1 ⟨rfl, hcr.step hb1 hgl, Nat.lt_of_lt_of_le hgl hb1.size⟩ hF1 hok hm (by omega) hc (by omega)).mono ?_
        rintro e W2 ⟨rfl, hb2⟩
        exact ⟨rfl, below2 hb1 hb2, hF1.below hb2⟩
    have HSE2 : Hid _ := HSE
    clear HSE hqx
    by_cases hlt : t < L.length
    · have hti : (t : Int) < (L.length : Int) := by omega
      by_cases hfu : m ≤ szB L t
      · have ht : t = L.length ∨ m ≤ szB L t := Or.inr hfu
        rw [decide_eq_true hfu] at hfull
        clear hfu
        go_wp2_with (first | (go_at_call 105; with_reducible refine hfull.mono ?_; rintro e w1 ⟨rfl, hb1⟩; have hF1 := hFx.below hb1; have hbw1 := below2 hbx hb1; clear hFx hbx c0 c1 hfull) | fail)
        have hse := HSE2.out w1 hbw1 hF1
        go_wp2_with (first
          | (go_at_call 81; with_reducible refine hse.mono ?_; rintro e w2 ⟨r, rfl, hr1, hr2, hr3, hb2, hF2⟩
             have hsr := fil_search hL0 hL1 ht hr1 hr2 hr3
             have hn1 : r + 1 ≤ L.length := (by omega)
             have hni : (1 : Int) + (r : Int) = ((r + 1 : Nat) : Int) := (by omega)
             have c2 : w2.cell? ⟨w.heap.size, 0, none⟩ = some (.slice (some ⟨g, off, none⟩) L.length cap) := hF2.f.c0
             have hcl : ((r + 1 : Nat) : Int) ≤ (cap : Int) := (by omega)
             have hbl := bld_take (some ⟨g, off, none⟩) g off cap L (r + 1) w2 ⟨rfl, hcr.step hb2 hgl, Nat.lt_of_lt_of_le hgl hb2.size⟩ hn1 (by omega)
             have HFE := HFE2.out (r + 1) hsr
             have hn0 : 1 ≤ r + 1 := (by omega)
             have HF3 : Hid _ := HFE
             clear HFE hsr hr1 hr2 hr3 hF2 hse ht
             generalize r + 1 = n at *)
          | (go_at_call 49; with_reducible refine hbl.mono ?_; rintro e w3 ⟨rfl, hb3⟩
             rcases HF3.out with ⟨e1, e2⟩ | ⟨e1, e2⟩
             · rw [e1]
               have E2 : Hid _ := e2
               clear e1 e2 HF3
               go_wp2
               go_ret
               exact ⟨by rw [E2.out]; rfl, below2 hb2 hb3⟩
             · rw [e1]
               have E2 : Hid _ := e2
               have hsub : ((n - 1 : Nat) : Int) = (n : Int) - 1 := by omega
               clear e1 e2 HF3
               go_wp2
               go_ret
               exact ⟨by rw [E2.out, hsub]; rfl, below2 hb2 hb3⟩))
      · rw [decide_eq_false hfu] at hfull
        clear hfu HSE2
        go_wp2_with (first | (go_at_call 105; with_reducible refine hfull.mono ?_; rintro e w1 ⟨rfl, hb1⟩; have hF1 := hFx.below hb1; have hbw1 := below2 hbx hb1; have c2 : w1.cell? ⟨w.heap.size, 0, none⟩ = some (.slice (some ⟨g, off, none⟩) L.length cap) := hF1.f.c0; clear hFx hbx c0 c1 hfull) | fail)
        go_wp2
        go_roundw
        case rel => exact ⟨min (2 * t) L.length, by go_num, by omega, by omega, hbw1, hF1⟩
        case measure => simp [intOf]; omega
    · have ht : t = L.length ∨ m ≤ szB L t := Or.inl (by omega)
      have hti : ¬ ((t : Int) < (L.length : Int)) := by omega
      clear hfull
      have hse := HSE2.out wr hbx hFx
      go_wp2_with (first
        | (go_at_call 81; with_reducible refine hse.mono ?_; rintro e w2 ⟨r, rfl, hr1, hr2, hr3, hb2, hF2⟩
           have hsr := fil_search hL0 hL1 ht hr1 hr2 hr3
           have hn1 : r + 1 ≤ L.length := (by omega)
           have hni : (1 : Int) + (r : Int) = ((r + 1 : Nat) : Int) := (by omega)
           have c2 : w2.cell? ⟨w.heap.size, 0, none⟩ = some (.slice (some ⟨g, off, none⟩) L.length cap) := hF2.f.c0
           have hcl : ((r + 1 : Nat) : Int) ≤ (cap : Int) := (by omega)
           have hbl := bld_take (some ⟨g, off, none⟩) g off cap L (r + 1) w2 ⟨rfl, hcr.step hb2 hgl, Nat.lt_of_lt_of_le hgl hb2.size⟩ hn1 (by omega)
           have HFE := HFE2.out (r + 1) hsr
           have hn0 : 1 ≤ r + 1 := (by omega)
           have HF3 : Hid _ := HFE
           clear HFE hsr hr1 hr2 hr3 hF2 hse ht
           generalize r + 1 = n at *)
        | (go_at_call 49; with_reducible refine hbl.mono ?_; rintro e w3 ⟨rfl, hb3⟩
           rcases HF3.out with ⟨e1, e2⟩ | ⟨e1, e2⟩
           · rw [e1]
             have E2 : Hid _ := e2
             clear e1 e2 HF3
             go_wp2
             go_ret
             exact ⟨by rw [E2.out]; rfl, below2 hb2 hb3⟩
           · rw [e1]
             have E2 : Hid _ := e2
             have hsub : ((n - 1 : Nat) : Int) = (n : Int) - 1 := by omega
             clear e1 e2 HF3
             go_wp2
             go_ret
             exact ⟨by rw [E2.out, hsub]; rfl, below2 hb2 hb3⟩))

end Go.Proofs.YtmpnofbhbglfpaaGreatDoor

namespace Go.Proofs.YtmpnofbhbglfpaaGreatDoor
open Go.RowKit
attribute [local go_sem] Oper.semAt_some
attribute [local go_sem] size_bstr getElem_bstr toList_bstr append_bstr

/-- A block of cells. -/
def CBlk (w : World) (g : Nat) : Prop := ∃ cur fz, w.heap[g]? = some (.cells cur 39 fz)
/-- The cells of a block that is told. -/
structure TV (w : World) (v : Value) (B : List Cl) : Prop where
  out : ∃ g off cap, v = .slice (some ⟨g, off, none⟩) B.length cap ∧ CRow w g off B ∧ CBlk w g ∧ B.length ≤ cap
theorem CBlk.lt {w : World} {g : Nat} (h : CBlk w g) : g < w.heap.size := by obtain ⟨cur, fz, h⟩ := h; exact blk_lt h
theorem CBlk.same {w w' : World} {g : Nat} (h : CBlk w g) (e : w'.heap[g]? = w.heap[g]?) : CBlk w' g := by obtain ⟨cur, fz, h⟩ := h; exact ⟨cur, fz, e.trans h⟩
theorem CRow.blk {w w' : World} {g off : Nat} {B : List Cl} (h : CRow w g off B) (e : w'.heap[g]? = w.heap[g]?) : CRow w' g off B := h.same fun _ => World.cell?_of_block e
/-- Blocks that are told: what is asked of one who is told them. X: blocks of the teller's own. -/
def Tells (gf : Nat) (caps : Array Value) (Bs : List (List Cl)) (w0 : World) : Prop :=
  ∀ (lr : Nat) (w : World) (J : (Nat → Prop) → Nat → World → Prop) (Jx : World → Prop), (∀ X j W W', J X j W → Kp W W' X → (∀ i, X i → CBlk W' i) → J X j W') → (∀ X j W, J X j W → Below w0.heap.size w0 W) → (∀ X W, (∀ i, X i → w.heap.size ≤ i ∧ CBlk W i) → Below w.heap.size w W → J X 0 W) →
    (∀ m X j W B v, Bs[j]? = some B → (∀ i, X i → w.heap.size ≤ i ∧ i < W.heap.size ∧ CBlk W i) → TV W v B → J X j W → YieldAt Fence.wide m Tryz.prog lr #[v, .string (bstr (blkB B))] W fun e W' => (e = .returned (.bool true) ∧ J X (j + 1) W' ∧ ∀ i, X i → W'.heap[i]? = W.heap[i]?) ∨ (e = .returned (.bool false) ∧ Jx W')) →
    Calls Tryz.prog gf (#[.func (.yield lr) #[] #[]] ++ caps) w fun e W => (∃ u, e = .returned u) ∧ ((∃ X, J X Bs.length W) ∨ Jx W)

/-- What cut has captured. -/
structure CBx (w : World) (b : Nat) (v : Value) (m : Nat) : Prop where
  l : w.heap[b]? = some (.cells #[v] 22 (0, 0))
  m : w.heap[b + 1]? = some (.cells #[.int .i64 (m : Int)] 3 (0, 0))
theorem CBx.below {w w' : World} {b : Nat} {v : Value} {m : Nat} (h : CBx w b v m) {B : Nat} (hb : Below B w w') (hB : b + 1 < B) : CBx w' b v m := ⟨(hb.block _ (by omega)).trans h.l, (hb.block _ (by omega)).trans h.m⟩
theorem CBx.c0 {w : World} {b : Nat} {v : Value} {m : Nat} (h : CBx w b v m) : w.cell? ⟨b, 0, none⟩ = some v := (Bl.cells_block h.l).1 0
theorem CBx.c1 {w : World} {b : Nat} {v : Value} {m : Nat} (h : CBx w b v m) : w.cell? ⟨b + 1, 0, none⟩ = some (.int .i64 (m : Int)) := (Bl.cells_block h.m).1 0

set_option maxHeartbeats 1000000 in
theorem tcut_any (q : Option Addr) (n cap m : Nat) (w : World) :
    Calls Tryz.prog 26 #[.slice q n cap, .int .i64 (m : Int)] w fun e w' => e = .returned (.func (.func 60) #[] #[.pointer (some ⟨w.heap.size, 0, none⟩), .pointer (some ⟨w.heap.size + 1, 0, none⟩)]) ∧ CBx w' w.heap.size (.slice q n cap) m ∧ w.heap.size + 1 < w'.heap.size ∧ Below w.heap.size w w' := by
  have hmf : ∀ (fn : Fn) (first cap : Array Value) (w : World), (Instr.makeFunc fn first cap).run Tryz.prog w = .ok (.func fn first cap) w := fun _ _ _ _ => rfl
  go_enter Tryz.func26, Tryz.ntmps26
  go_wp2
  go_ret
  refine ⟨rfl, ⟨?_, ?_⟩, by simp, ((Below.refl _ _).alloc (Nat.le_refl _) _).alloc (by simp) _⟩
  · exact (Below.heap_alloc _ _ _ (by simp)).trans (heap_alloc_new w _)
  · have := heap_alloc_new (w.alloc (.cells #[.slice q n cap] 22)) (.cells #[.int .i64 (m : Int)] 3)
    simpa using this

set_option maxHeartbeats 4000000 in
set_option maxRecDepth 100000 in
theorem cut1_tells (q : Option Addr) (g off cap b : Nat) (L : List Cl) (m : Nat) (w0 : World) (hq : 0 < L.length → q = some ⟨g, off, none⟩ ∧ CRow w0 g off L ∧ CBlk w0 g) (hB : CBx w0 b (.slice q L.length cap) m) (hok : okL L = true) (h1 : onesB L = true) (hm : m ≤ 32768) (hc : L.length ≤ cap) (hL : L.length ≤ 1000000) :
    Tells 60 #[.pointer (some ⟨b, 0, none⟩), .pointer (some ⟨b + 1, 0, none⟩)] (cutB L m) w0 := by
  intro lr w J Jx hab hI hX0 hY
  have hJ0 := hX0 (fun _ => False) w (fun _ h => h.elim) (Below.refl _ _)
  have hb0 := hI _ _ _ hJ0
  have hBw := hB.below hb0 (blk_lt hB.m)
  have c0 := hBw.c0
  have c1 := hBw.c1
  refine calls_in Tryz.func60 rfl ?_
  simp only [Tryz.ntmps60, List.size_toArray, List.length_cons, List.length_nil, Nat.reduceAdd, Nat.reduceSub, Array.replicate_succ, Array.replicate_zero, List.push_toArray, List.append_toArray, List.nil_append, List.cons_append]
  gi_wp2_with fail
  have HB : Hid _ := hB
  clear hB hBw c0 c1 hX0
  refine wpIn_loop_n (fun k a wr => ∃ (p j : Nat) (q1 : Option Addr) (cap1 : Nat) (u3 u5 u6 u7 u9 u10 u11 u12 u13 u14 u15 u16 u17 u18 u19 u20 u21 u22 u23 u24 u25 u26 u27 u28 u29 u30 u31 : Value), a = { tmps := #[.func (.yield lr) #[] #[], .pointer (some ⟨b, 0, none⟩), .pointer (some ⟨b + 1, 0, none⟩), u3, .slice q1 (L.length - p) cap1, u5, u6, u7, .slice q L.length cap, u9, u10, u11, u12, u13, u14, u15, u16, u17, u18, u19, u20, u21, u22, u23, u24, u25, u26, u27, u28, u29, u30, u31], defers := [] } ∧ (cutB L m).drop j = cutB (L.drop p) m ∧ (cutB (L.drop p) m).length = k ∧ j + k = (cutB L m).length ∧ p ≤ L.length ∧ (p < L.length → q1 = some ⟨g, off + p * 5, none⟩) ∧ L.length - p ≤ cap1 ∧ J (fun _ => False) j wr) (cutB L m).length ?start ?round
  case start => exact ⟨0, 0, q, cap, _, _, _, _, _, _, _, _, _, _, _, _, _, _, _, _, _, _, _, _, _, _, _, _, _, _, _, rfl, by simp, by simp, by simp, by omega, fun h => by rw [(hq h).1]; simp, by omega, hJ0⟩
  case round =>
    clear hJ0 hb0
    rintro k a wr ⟨p, j, q1, cap1, u3, u5, u6, u7, u9, u10, u11, u12, u13, u14, u15, u16, u17, u18, u19, u20, u21, u22, u23, u24, u25, u26, u27, u28, u29, u30, u31, rfl, hdr, hk, hjk, hpl, hq1, hc1, hJ⟩
    have hbw := hI _ _ _ hJ
    have hBw := HB.out.below hbw (blk_lt HB.out.m)
    have c0 := hBw.c0
    have c1 := hBw.c1
    by_cases hlt : p < L.length
    · obtain ⟨rfl, hcr, hcb⟩ := hq (by omega)
      obtain rfl := hq1 hlt
      have hgl := hcb.lt
      have hcr2 : CRow wr g (off + p * 5) (L.drop p) := (hcr.step hbw hgl).drop p
      have hcb2 : CBlk wr g := hcb.same (hbw.block g hgl)
      have hlen : (L.drop p).length = L.length - p := List.length_drop
      have hne : L.drop p ≠ [] := by intro e; rw [e] at hlen; simp at hlen; omega
      have hok2 := okL_drop p hok
      have h12 := onesB_drop p h1
      have hcons := cutB_cons hm hne h12
      have hsp := fil_spec (by omega) hm (onesB_one h12)
      have hfill := fill_any (some ⟨g, off + p * 5, none⟩) g (off + p * 5) cap1 (L.drop p) m wr ⟨rfl, hcr2, hcb2.lt⟩ hok2 (by omega) hm (by omega) (by omega)
      rw [hlen] at hfill hsp
      obtain ⟨n, hn⟩ : ∃ n, n = fil (L.drop p) m := ⟨_, rfl⟩
      rw [← hn] at hfill hsp hcons
      obtain ⟨B, hBB⟩ : ∃ B, B = (L.drop p).take n := ⟨_, rfl⟩
      have hBl : B.length = n := by rw [hBB, List.length_take, hlen]; omega
      have hbd := bld_ok (okL_take n hok2) hsp.2.2
      rw [← hBB] at hbd hcons
      have hjb : (cutB L m)[j]? = some B := by
        have : ((cutB L m).drop j)[0]? = some B := by rw [hdr, hcons]; rfl
        rw [List.getElem?_drop] at this
        exact this
      have hdr2 : (cutB L m).drop (j + 1) = cutB (L.drop (p + n)) m := by
        rw [← List.drop_drop, hdr, hcons, List.drop_drop]
        rfl
      have hk2 : ∃ k', k = k' + 1 ∧ (cutB (L.drop (p + n)) m).length = k' := ⟨_, by rw [← hk, hcons, List.length_cons, List.drop_drop], rfl⟩
      obtain ⟨k', rfl, hk'⟩ := hk2
      have hgo : (0 : Int) < ((L.length - p : Nat) : Int) := by omega
      have hnc : (n : Int) ≤ (cap1 : Int) := by omega
      have hnl : (n : Int) ≤ ((L.length - p : Nat) : Int) := by omega
      have htl := fun W => etail_run (P := Tryz.prog) (t := 22) (q := some ⟨g, off + p * 5, none⟩) (len := L.length - p) (cap := cap1) (n := n) (s := 5) Tryz.underlying22 (fun W => Tryz.sizeOf39 W) (by omega) W
      have HY : Hid _ := hY
      have HD : Hid _ := hdr2
      have HK : Hid _ := hk'
      have HJB : Hid _ := hjb
      have HN : Hid _ := hsp
      have HBB : Hid _ := hBB
      have HBL : Hid _ := hBl
      have HBD : Hid _ := hbd
      have HOK : Hid _ := hok2
      have HHB : Hid _ := hab
      clear hY hdr2 hk' hjb hsp hBB hBl hbd hcons hn hdr hk hok2 h12 hok h1 hlen hne hab hBw
      gi_wp2_with fail
      refine ⟨trivial, (callsIn_wide.2 hfill).mono ?_⟩
      rintro e w1 ⟨rfl, hb1⟩
      have hbl := bld_take (some ⟨g, off + p * 5, none⟩) g (off + p * 5) cap1 (L.drop p) n w1 ⟨rfl, hcr2.step hb1 hcb2.lt, Nat.lt_of_lt_of_le hcb2.lt hb1.size⟩ (by rw [List.length_drop]; have := HN.out; omega) (by rw [List.length_drop]; omega)
      rw [← HBB.out, HBD.out.1, HBD.out.2] at hbl
      clear hfill c0 c1
      gi_wp2_with fail
      refine ⟨trivial, (callsIn_wide.2 hbl).mono ?_⟩
      rintro e w2 ⟨rfl, hb2⟩
      have hb12 := below2 hb1 hb2
      have hJ2 := HHB.out _ _ _ _ hJ (Kp.of_below _ hb12) (fun _ h => h.elim)
      have hTV : TV w2 (.slice (some ⟨g, off + p * 5, none⟩) n cap1) B := ⟨g, off + p * 5, cap1, by rw [HBL.out], by rw [HBB.out]; exact (hcr2.step hb12 hcb2.lt).take n, hcb2.same (hb12.block g hcb2.lt), by have := HBL.out; omega⟩
      obtain ⟨fn, tmps, assign, body, hyr, hR⟩ := HY.out (3 - 1) (fun _ => False) j w2 B _ HJB.out (fun _ h => h.elim) hTV hJ2
      clear hbl hTV
      gi_wp2_with fail
      clear hyr
      refine hR.mono ?_
      rintro e w3 (⟨rfl, hJ3, _⟩ | ⟨rfl, hJ3⟩)
      · gi_wp2
        all_goals (
          have hN := HN.out
          refine ⟨p + n, j + 1, _, _, ⟨rfl, by omega, rfl⟩, HD.out, HK.out, by omega, by omega, fun h2 => ?_, by omega, hJ3⟩
          first
            | (exfalso; omega)
            | (refine congrArg (fun x => some (⟨g, x, none⟩ : Addr)) ?_; omega)
            | (show some (⟨g, off + p * 5 + n * 5, none⟩ : Addr) = _; refine congrArg (fun x => some (⟨g, x, none⟩ : Addr)) ?_; omega))
      · gi_wp2
        refine bodyPost_ret (results_none rfl _ _ _) rfl ?_
        exact ⟨⟨_, rfl⟩, Or.inr hJ3⟩
    · have hpe : p = L.length := by omega
      have hgo : ¬ ((0 : Int) < ((L.length - p : Nat) : Int)) := by omega
      have he : cutB (L.drop p) m = [] := by rw [hpe, List.drop_length]; rfl
      rw [he] at hk
      have hjl : j = (cutB L m).length := by rw [← hjk, ← hk]; rfl
      have HJL : Hid _ := hjl
      clear hjl hk he hdr hpe
      gi_wp2
      exact ⟨rfl, _, results_none rfl _ _ _, ⟨_, rfl⟩, Or.inl ⟨_, HJL.out ▸ hJ⟩⟩

end Go.Proofs.YtmpnofbhbglfpaaGreatDoor
