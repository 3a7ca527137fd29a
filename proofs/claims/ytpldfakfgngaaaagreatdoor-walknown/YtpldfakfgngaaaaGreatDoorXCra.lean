/-
  The contract of disk.Crash.
-/
import Derived.Test.YtpldfakfgngaaaaGreatDoorXCrash
namespace Go.Proofs.YtpldfakfgngaaaaGreatDoor
open Go.RowKit
open Go.Sort (Holds grow putRow)

theorem wth_set {f' : Fl} : ∀ {L : List Fl}, Srt L → ∀ (i : Nat) (hi : i < L.length), f'.name = L[i].name → wth f' L = L.set i f'
  | [], _, i, hi, _ => by simp at hi
  | y :: r, _, 0, _, e => by
    simp only [List.getElem_cons_zero] at e
    simp [wth, ← e, lt_irr]
  | y :: r, h, i + 1, hi, e => by
    obtain ⟨h1, h2⟩ := List.pairwise_cons.1 h
    simp only [List.getElem_cons_succ] at e
    have hlt : y.name < f'.name := by rw [e]; exact h1 _ (List.getElem_mem _)
    simp only [wth, if_pos hlt, List.set_cons_succ]
    rw [wth_set h2 i (by simpa using hi) e]

/-- What is kept of the j-th file. -/
def kAt (ks : List Int) (j : Nat) : Int := ks.getD j 0
/-- The first i files are as a loss of power left them; the others are as they were. -/
structure Cr (ks : List Int) (i : Nat) (L L' : List Fl) : Prop where
  len : L'.length = L.length
  old : ∀ j (h : j < L.length), j < i → ∃ v', L'[j]'(by rw [len]; exact h) = crF (kAt ks j) L[j] v'
  new : ∀ j (h : j < L.length), i ≤ j → L'[j]'(by rw [len]; exact h) = L[j]
theorem Cr.start (ks : List Int) (L : List Fl) : Cr ks 0 L L := ⟨rfl, fun _ _ h => absurd h (Nat.not_lt_zero _), fun _ _ _ => rfl⟩
theorem Cr.nms {ks : List Int} {i : Nat} {L L' : List Fl} (h : Cr ks i L L') : nms L' = nms L := by
  apply List.ext_getElem
  · simp [Go.Proofs.YtpldfakfgngaaaaGreatDoor.nms, h.len]
  · intro j h1 h2
    have hj : j < L.length := by simpa [Go.Proofs.YtpldfakfgngaaaaGreatDoor.nms] using h2
    simp only [Go.Proofs.YtpldfakfgngaaaaGreatDoor.nms, List.getElem_map]
    by_cases hi : j < i
    · obtain ⟨v', e⟩ := h.old j hj hi
      rw [e]; rfl
    · rw [h.new j hj (by omega)]
theorem Cr.step {ks : List Int} {i : Nat} {L L' : List Fl} (h : Cr ks i L L') (hs : Srt L') (hi : i < L.length) (v' : Value) : Cr ks (i + 1) L (wth (crF (kAt ks i) L[i] v') L') := by
  have hi' : i < L'.length := by rw [h.len]; exact hi
  have e := h.new i hi (Nat.le_refl _)
  have hw : wth (crF (kAt ks i) L[i] v') L' = L'.set i (crF (kAt ks i) L[i] v') := wth_set hs i hi' (by rw [e]; rfl)
  have hl : (wth (crF (kAt ks i) L[i] v') L').length = L.length := by rw [hw, List.length_set, h.len]
  refine ⟨hl, fun j hj hlt => ?_, fun j hj hle => ?_⟩
  · simp only [hw, List.getElem_set]
    by_cases hji : i = j
    · subst hji
      exact ⟨v', by simp⟩
    · rw [if_neg hji]
      exact h.old j hj (by omega)
  · simp only [hw, List.getElem_set]
    rw [if_neg (by omega)]
    exact h.new j hj (by omega)
theorem lst_nil (L : List Fl) : lst [] L = nms L := by
  unfold lst
  exact List.filter_eq_self.2 fun _ _ => by simp
theorem srt_at {L : List Fl} (h : Srt L) {i : Nat} (hi : i < L.length) : lk L[i].name L = some L[i] := lk_mem h (List.getElem_mem _)
theorem crF_len (k : Int) (f : Fl) (v' : Value) (_h : f.syn ≤ f.bytes.length) : (crF k f v').bytes.length + (f.bytes.length - f.syn - kn k (f.bytes.length - f.syn)) = f.bytes.length := by
  have := kn_le k (f.bytes.length - f.syn)
  show (f.bytes.take _).length + _ = _
  rw [List.length_take]; omega
/-- A slice of numbers, as an argument; it lies in none of the blocks of which S speaks. -/
def KArg (w : World) (q : Option Addr) (ks : List Int) (S : Nat → Prop) : Prop := 0 < ks.length → ∃ b off, q = some ⟨b, off, none⟩ ∧ b < w.heap.size ∧ ¬ S b ∧ ∀ i (h : i < ks.length), w.cell? ⟨b, off + i, none⟩ = some (.int .i64 ks[i])
/-- A row of another kind is left as it was. -/
theorem own_kept {w w' : World} {d m fr N : Nat} {L : List Fl} (h : Dk w d m L fr N) (hk : Kp w w' (Ft d m L)) {B e sz : Nat} {v : Value} {n : Nat} {xs : List Value} (ho : w.ownsRow B e sz v n xs)
    (ht : e ≠ 108 ∧ e ≠ 112 ∧ e ≠ 5) : w'.ownsRow B e sz v n xs := by
  refine ⟨ho.1, ?_⟩
  rcases ho.2 with a | ⟨g, cap, cur, a1, a2, a3, a4⟩
  · exact Or.inl a
  · exact Or.inr ⟨g, cap, cur, a1, a2, (hk.block g (Array.getElem?_eq_some_iff.1 a3).1 (h.other a3 ht)).trans a3, a4⟩

theorem Stp.of_drew {w w' : World} {d m : Nat} {L L' : List Fl} {x y : Nat} (h : Stp w.drew w' d m L L' x y) : Stp w w' d m L L' x y := ⟨h.dk, ⟨h.kp.os, h.kp.tape, h.kp.output, h.kp.size, h.kp.block⟩, h.ft⟩
theorem Stp.free {w w' : World} {d m : Nat} {L L' : List Fl} {x y : Nat} (h : Stp w w' d m L L' x y) (x' : Nat) : Stp w (w'.setCell ⟨d, 0, none⟩ (.int .i64 (x' : Int))) d m L L' x' y :=
  ⟨h.dk.free (by rw [block_set h.dk.blk 0]; rfl) (fun i _ hi => Below.heap_setCell _ _ _ _ hi), h.kp.trans (Kp.of_grown (S := fun i => i = d) (grown_setCell w' d 0 _) rfl) (fun i hi => Or.inl (Or.inl hi)), h.ft⟩
theorem own_kept1 {w w' : World} {k : Nat} (hg : w.grownBy w' (some k)) {t : TypeId} {cur : Array Value} (hk : w.heap[k]? = some (.cells cur t (0, 0))) {B e sz : Nat} {v : Value} {n : Nat} {xs : List Value} (ho : w.ownsRow B e sz v n xs) (ht : e ≠ t) : w'.ownsRow B e sz v n xs := by
  refine ⟨ho.1, ?_⟩
  rcases ho.2 with a | ⟨g, cap, cur', a1, a2, a3, a4⟩
  · exact Or.inl a
  · refine Or.inr ⟨g, cap, cur', a1, a2, (hg.block g (Array.getElem?_eq_some_iff.1 a3).1 (fun e => ?_)).trans a3, a4⟩
    cases e
    rw [hk] at a3
    cases a3
    exact ht rfl

set_option maxHeartbeats 8000000 in
set_option maxRecDepth 100000 in
theorem Crash_any {d m fr N : Nat} {L : List Fl} (q : Option Addr) (cap : Nat) (ks : List Int) (w : World) (h : Dk w d m L fr N) (hN : N ≤ 1099511627776) (hq : KArg w q ks (Ft d m L)) (hfit : fr + tot L ≤ 9223372036854775807) (hb : tot L ≤ 140737488355328) :
    Calls Tryz.prog 24 #[.pointer (some ⟨d, 0, none⟩), .slice q ks.length cap] w fun e w' => e = .returned (.tuple #[]) ∧ ∃ L' fr', Cr ks L.length L L' ∧ fr' + tot L' = fr + tot L ∧ Stp w w' d m L L' fr' N := by
  have hL := List_any [] w h hN
  rw [lst_nil] at hL
  have hlen : (nms L).length = L.length := by simp [nms]
  have hLN := h.len
  go_enter Tryz.func24, Tryz.ntmps24
  go_wp2_with fail
  refine hL.mono ?_
  rintro e w1 ⟨v0, rfl, hrow0, hb1⟩
  have hS1 : Stp w w1 d m L L fr N := (Stp.refl h).below hb1
  have hshape : ∃ q0 cap0, v0 = .slice q0 L.length cap0 ∧ ∀ i, i < L.length → ∃ g, q0 = some ⟨g, 0, none⟩ ∧ w.heap.size ≤ g ∧ L.length ≤ cap0 := by
    rcases hrow0.2 with ⟨rfl, h0⟩ | ⟨g, cap0, cur, rfl, a1, a2, a3, a4⟩
    · exact ⟨none, 0, by rw [← hlen, h0], fun i hi => by omega⟩
    · exact ⟨_, cap0, by rw [hlen], fun i hi => ⟨g, rfl, a1, by omega⟩⟩
  obtain ⟨q0, cap0, rfl, hq0⟩ := hshape
  clear hL
  go_wp2_with fail
  go_loopw [10] (fun s10 wr => ∃ (i : Nat) (L' : List Fl) (fr' : Nat), s10 = .int .i64 (i : Int) ∧ i ≤ L.length ∧ Cr ks i L L' ∧ Hid (fr' + tot L' = fr + tot L) ∧ Stp w wr d m L L' fr' N ∧ wr.ownsRow w.heap.size 9 1 (.slice q0 L.length cap0) (nms L).length ((nms L).map encStr)) (fun s10 _ => L.length - (intOf s10).toNat)
  case atStart => exact ⟨0, L, fr, rfl, Nat.zero_le _, Cr.start ks L, rfl, hS1, hrow0⟩
  case round =>
    obtain ⟨i, L', fr', rfl, hi, hC, hsum, hS, hrow⟩ := hrel
    clear hS1 hrow0 hb1
    by_cases hge : ¬ i < L.length
    · have hie : i = L.length := by omega
      subst hie
      go_wp2
      go_end0
      exact ⟨rfl, L', fr', hC, hsum.out, hS⟩
    have hlt : i < L.length := by omega
    clear hge
    have hD := hS.dk
    have hi' : i < L'.length := by rw [hC.len]; exact hlt
    have e := hC.new i hlt (Nat.le_refl _)
    have hlki : lk L[i].name L' = some L[i] := by have := srt_at hD.srt hi'; rw [e] at this; exact this
    obtain ⟨hm, _⟩ := lk_some hlki
    have hF := hD.fl _ hm
    have hlook := hD.drew.look (s := L[i].name) (by have := hF.nm.2; unfold maxLen; omega)
    rw [hlki] at hlook
    simp only [pv] at hlook
    have d0 : wr.cell? ⟨d, 0, none⟩ = some (.int .i64 (fr' : Int)) := (cells_block hD.blk).1 0
    have d1 : wr.cell? ⟨d, 1, none⟩ = some (.map (some m)) := (cells_block hD.blk).1 1
    have df : wr.frozen? ⟨d, 0, none⟩ = false := (cells_block hD.blk).2 0
    obtain ⟨g0, rfl, hg0, hc0⟩ := hq0 i hlt
    have hnm : wr.cell? ⟨g0, i, none⟩ = some (.string (bstr L[i].name)) := by
      have := hrow.cells (g := g0) rfl i (encStr L[i].name) (by simp [nms, hlt])
      rw [Addr.add_lit] at this
      rw [Nat.zero_add] at this
      exact this
    have hbi : L[i].bytes.length ≤ 140737488355328 := by
      have h1 : L[i].bytes.length ≤ tot L := tot_mem (List.getElem_mem _)
      omega
    have hkc : i < ks.length → ∃ b off, q = some ⟨b, off, none⟩ ∧ wr.cell? ⟨b, off + i, none⟩ = some (.int .i64 (kAt ks i)) := fun hk => by
      obtain ⟨b, off, h1, h2, h3, h4⟩ := hq (by omega)
      refine ⟨b, off, h1, ?_⟩
      have := h4 i hk
      rw [World.cell?_of_block (a := ⟨b, off + i, none⟩) (hS.kp.block b h2 h3), this]
      simp [kAt, hk]
    have hk0 : ¬ i < ks.length → kAt ks i = 0 := fun hk => by simp [kAt, hk]
    have hcr := crash_any (kAt ks i) wr.drew hD.drew hlki hbi
    have hll := crF_len (kAt ks i) L[i]
    generalize hlo : (L[i].bytes.length - L[i].syn - kn (kAt ks i) (L[i].bytes.length - L[i].syn) : Nat) = lo at hcr hll
    have htot := hsum.out
    have hmem := tot_mem hm
    have hlol : lo ≤ L[i].bytes.length := by omega
    have hb9 : fr' + lo ≤ 9223372036854775807 := by omega
    have hwr : ((fr' : Int) + (lo : Int)) = ((fr' + lo : Nat) : Int) := by omega
    have fin : ∀ (v' : Value) (w2 : World), Stp wr.drew w2 d m L' (wth (crF (kAt ks i) L[i] v') L') fr' N → ∃ L2, Cr ks (i + 1) L L2 ∧ Hid (fr' + lo + tot L2 = fr + tot L) ∧ Stp w (w2.setCell ⟨d, 0, none⟩ (.int .i64 ((fr' + lo : Nat) : Int))) d m L L2 (fr' + lo) N ∧ (w2.setCell ⟨d, 0, none⟩ (.int .i64 ((fr' + lo : Nat) : Int))).ownsRow w.heap.size 9 1 (.slice (some ⟨g0, 0, none⟩) L.length cap0) (nms L).length ((nms L).map encStr) := fun v' w2 hS2 => by
      refine ⟨_, hC.step hD.srt hlt v', ?_, (hS.trans hS2.of_drew).free _, own_kept1 (grown_setCell w2 d 0 _) hS2.dk.blk (own_kept hD.drew hS2.kp hrow (by decide)) (by decide)⟩
      have h1 := tot_wth_old (f := crF (kAt ks i) L[i] v') (o := L[i]) hD.srt hlki
      have h2 := hll v' hF.syn
      show fr' + lo + _ = _
      omega
    clear hC hsum hS hrow hD hF hm hlki hll hmem htot hlol hlo hq h e hi'
    have HW : Hid (((fr' : Int) + (lo : Int)) = ((fr' + lo : Nat) : Int)) := hwr
    clear hwr
    generalize L[i].name = nm at *
    generalize L[i].g = gg at *
    by_cases hk : i < ks.length
    · obtain ⟨b, off, rfl, hkc⟩ := hkc hk
      clear hk0
      generalize kAt ks i = kk at *
      go_wp2_with fail
      go_region_with ((go_at_call 64; refine hcr.mono ?_; rintro e w2 ⟨rfl, v', hS2⟩; clear d0 d1 df; have hD2 := hS2.dk; have d0 : w2.cell? ⟨d, 0, none⟩ = some (.int .i64 (fr' : Int)) := (cells_block hD2.blk).1 0; have d1 : w2.cell? ⟨d, 1, none⟩ = some (.map (some m)) := (cells_block hD2.blk).1 1; have df : w2.frozen? ⟨d, 0, none⟩ = false := (cells_block hD2.blk).2 0; obtain ⟨L2, k1, k2, k3, k4⟩ := fin v' w2 hS2; clear hS2 hD2 fin hcr))
      all_goals
        rw [← HW.out] at k3 k4
        clear d0 d1 df
        go_wp2
        go_roundw
        case rel => exact ⟨i + 1, L2, fr' + lo, by simp, hlt, k1, k2, k3, k4⟩
        case measure => simp [intOf]; omega
    · have hk1 := hk0 hk
      clear hk0 hkc
      generalize kAt ks i = kk at *
      subst hk1
      go_wp2_with fail
      go_region_with ((go_at_call 64; refine hcr.mono ?_; rintro e w2 ⟨rfl, v', hS2⟩; clear d0 d1 df; have hD2 := hS2.dk; have d0 : w2.cell? ⟨d, 0, none⟩ = some (.int .i64 (fr' : Int)) := (cells_block hD2.blk).1 0; have d1 : w2.cell? ⟨d, 1, none⟩ = some (.map (some m)) := (cells_block hD2.blk).1 1; have df : w2.frozen? ⟨d, 0, none⟩ = false := (cells_block hD2.blk).2 0; obtain ⟨L2, k1, k2, k3, k4⟩ := fin v' w2 hS2; clear hS2 hD2 fin hcr))
      all_goals
        rw [← HW.out] at k3 k4
        clear d0 d1 df
        go_wp2
        go_roundw
        case rel => exact ⟨i + 1, L2, fr' + lo, by simp, hlt, k1, k2, k3, k4⟩
        case measure => simp [intOf]; omega

end Go.Proofs.YtpldfakfgngaaaaGreatDoor
