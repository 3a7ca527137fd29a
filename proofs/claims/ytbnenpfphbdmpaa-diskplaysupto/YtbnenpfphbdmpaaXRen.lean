/-
  The contracts of disk.Append, as one, and of disk.Rename.
-/
import Derived.Test.YtbnenpfphbdmpaaXPut
namespace Go.Proofs.Ytbnenpfphbdmpaa
open Go.RowKit

/-- How many bytes of it are synced. -/
def syN : Option Fl → Nat
  | none => 0
  | some f => f.syn
theorem sy_syN (o : Option Fl) : sy o = (syN o : Int) := by cases o <;> rfl

theorem Append_ok {d m fr N : Nat} {L : List Fl} (s t : List UInt8) (w : World) (h : Dk w d m L fr N) (hs : okN s = true) (ht : t.length ≤ fr) (hb : tot L + t.length ≤ 140737488355328) (hfr : fr ≤ 9223372036854775807) (hN : N < maxLen) :
    Calls Try.prog 20 #[.pointer (some ⟨d, 0, none⟩), .string (bstr s), .string (bstr t)] w fun e w' => e = .returned (.int .i64 0) ∧ ∃ f' : Fl, f'.name = s ∧ f'.bytes = by_ (lk s L) ++ t ∧ f'.syn = syN (lk s L) ∧ Stp w w' d m L (wth f' L) (fr - t.length) (N + 1) := by
  cases e : lk s L with
  | none =>
    refine (Append_new s t w h e hs ht (by omega) hfr hN).mono ?_
    rintro e w' ⟨rfl, v', hS⟩
    exact ⟨rfl, ⟨s, t, 0, w.heap.size, v'⟩, rfl, rfl, rfl, hS⟩
  | some f =>
    obtain ⟨hm, rfl⟩ := lk_some e
    refine (Append_old t w h e ht (by have := tot_mem hm; omega) hfr).mono ?_
    rintro e w' ⟨rfl, v', hS⟩
    exact ⟨rfl, { f with bytes := f.bytes ++ t, v := v' }, rfl, rfl, rfl, hS.dk.mono (Nat.le_succ _), hS.kp, hS.ft⟩

set_option maxHeartbeats 1000000 in
theorem Rename_nil (s t : List UInt8) (w : World) :
    Calls Try.prog 24 #[.pointer none, .string (bstr s), .string (bstr t)] w fun e w' => e = .returned (.int .i64 1) ∧ w' = w := by
  go_enter Try.func24, Try.ntmps24
  go_wp2_with fail
  refine (find_nil s _).mono ?_
  rintro e w1 ⟨rfl, rfl⟩
  go_wp2
  go_ret
  exact ⟨rfl, rfl⟩

set_option maxHeartbeats 1000000 in
theorem Rename_none {d m fr N : Nat} {L : List Fl} (s t : List UInt8) (w : World) (h : Dk w d m L fr N) (hl : s.length ≤ maxLen) (e : lk s L = none) :
    Calls Try.prog 24 #[.pointer (some ⟨d, 0, none⟩), .string (bstr s), .string (bstr t)] w fun e w' => e = .returned (.int .i64 5) ∧ w' = w := by
  have hf := find_any s w h hl
  rw [e] at hf
  simp only [pv, fc] at hf
  go_enter Try.func24, Try.ntmps24
  go_wp2_with fail
  refine hf.mono ?_
  rintro e w1 ⟨rfl, rfl⟩
  go_wp2
  go_ret
  exact ⟨rfl, rfl⟩

set_option maxHeartbeats 1000000 in
theorem Rename_arg {d m fr N : Nat} {L : List Fl} (s t : List UInt8) (w : World) (h : Dk w d m L fr N) (hl : s.length ≤ maxLen) {f : Fl} (e : lk s L = some f) (ht : okN t = false) :
    Calls Try.prog 24 #[.pointer (some ⟨d, 0, none⟩), .string (bstr s), .string (bstr t)] w fun e w' => e = .returned (.int .i64 2) ∧ w' = w := by
  have hf := find_any s w h hl
  rw [e] at hf
  simp only [pv, fc] at hf
  have hi := isName_any t w
  rw [ht] at hi
  generalize f.g = g at *
  go_enter Try.func24, Try.ntmps24
  go_wp2_with fail
  refine hf.mono ?_
  rintro e w1 ⟨rfl, rfl⟩
  go_wp2_with fail
  refine hi.mono ?_
  rintro e w1 ⟨rfl, rfl⟩
  go_wp2
  go_ret
  exact ⟨rfl, rfl⟩

set_option maxHeartbeats 1000000 in
theorem Rename_same {d m fr N : Nat} {L : List Fl} (s : List UInt8) (w : World) (h : Dk w d m L fr N) (hl : s.length ≤ maxLen) {f : Fl} (e : lk s L = some f) :
    Calls Try.prog 24 #[.pointer (some ⟨d, 0, none⟩), .string (bstr s), .string (bstr s)] w fun e w' => e = .returned (.int .i64 0) ∧ w' = w := by
  have hf := find_any s w h hl
  have hs : okN s = true := by
    obtain ⟨hm, rfl⟩ := lk_some e
    unfold okN
    have := (h.fl f hm).nm
    simp [this.1, this.2]
  rw [e] at hf
  simp only [pv, fc] at hf
  have hi := isName_any s w
  rw [hs] at hi
  generalize f.g = g at *
  go_enter Try.func24, Try.ntmps24
  go_wp2_with fail
  refine hf.mono ?_
  rintro e w1 ⟨rfl, rfl⟩
  go_wp2_with fail
  refine hi.mono ?_
  rintro e w1 ⟨rfl, rfl⟩
  go_wp2
  go_ret
  exact ⟨rfl, rfl⟩

theorem grown_drew {a b : World} {r : Option Nat} (h : a.grownBy b r) : a.grownBy b.drew r := ⟨h.os, h.tape, h.output, h.size, h.block⟩
/-- A file that was taken out is put back under another name. -/
theorem Dk.renamed {w w1 w2 wf w3 : World} {d m fr fr' N : Nat} {L : List Fl} (h : Dk w d m L fr N) {f : Fl} {s t : List UInt8} (e : lk s L = some f) (hst : s ≠ t) (ht : 0 < t.length ∧ t.length ≤ 64)
    (h1 : Stp w w1 d m L (wto t L) fr' N) (hD2 : Dk w2 d m (wto s (wto t L)) fr' N) (g2 : w1.grownBy w2 (some m)) (hbf : Below w2.heap.size w2 wf) (ht3 : wf.mapTurned w3 m)
    (hm : ∃ n D, n ≤ N + 1 ∧ w3.ownsMap Try.prog 9 ptrElem m n D ∧ Mp D (wth { f with name := t } (wto s (wto t L)))) :
    Stp w w3 d m L (wth { f with name := t } (wto s (wto t L))) fr' (N + 1) := by
  obtain ⟨hm0, hn0⟩ := lk_some e
  have hm1 : f ∈ wto t L := wto_mem.2 ⟨hm0, by rw [hn0]; exact hst⟩
  have hF1 := h1.dk.fl f hm1
  have hDf := hD2.below hbf
  have hF2 : FlAt w2 f := by
    have hmb : ∀ (i : Nat) (cur : Array Value) (ty : TypeId), w1.heap[i]? = some (.cells cur ty (0, 0)) → w2.heap[i]? = w1.heap[i]? := fun i cur ty hi => g2.block i (Array.getElem?_eq_some_iff.1 hi).1 (fun e => by
      cases e
      obtain ⟨n, D, _, ⟨es, c, hb, _⟩, _⟩ := h1.dk.mp
      rw [hb] at hi
      cases hi)
    exact hF1.kept (hmb _ _ _ hF1.blk) (fun i hi => by
      obtain ⟨cur, hc⟩ := own_lt hF1.own hi
      exact hmb i _ _ hc)
  have hFf : FlAt wf f := by
    refine hF2.kept (hbf.block _ (Array.getElem?_eq_some_iff.1 hF2.blk).1) (fun i hi => ?_)
    obtain ⟨cur, hc⟩ := own_lt hF2.own hi
    exact hbf.block i (Array.getElem?_eq_some_iff.1 hc).1
  refine ⟨hDf.add { f with name := t } (lk_eq_none fun x hx => (wto_mem.1 (wto_mem.1 hx).1).2) ⟨hFf.blk, hFf.own, hFf.syn, ht⟩ (fun x hx => ?_) ht3 hm, ?_, fun i hi => ?_⟩
  · have hx2 := wto_mem.1 hx
    have hx1 := (wto_mem.1 hx2.1).1
    exact h.apart f hm0 x hx1 (by rw [hn0]; exact fun e => hx2.2 e.symm)
  · exact ((h1.kp.trans (Kp.of_grown (S := Ft d m L) g2 (Or.inr (Or.inl rfl))) (fun _ h => Or.inl h)).trans (Kp.of_below (Ft d m L) hbf) (fun _ h => Or.inl h)).trans (Kp.of_grown (S := Ft d m L) ht3.grown (Or.inr (Or.inl rfl))) (fun _ h => Or.inl h)
  · rcases Ft.add hD2.srt hi with a | a | a
    · exact Or.inl a.del.del
    · exact Or.inl (Or.inr (Or.inr ⟨f, hm0, Or.inl a⟩))
    · exact Or.inl (Or.inr (Or.inr ⟨f, hm0, Or.inr a⟩))

set_option maxHeartbeats 4000000 in
set_option maxRecDepth 100000 in
theorem Rename_ok {d m fr N : Nat} {L : List Fl} (s t : List UInt8) (w : World) (h : Dk w d m L fr N) (hl : s.length ≤ maxLen) {f : Fl} (e : lk s L = some f) (hst : s ≠ t) (ht : okN t = true) (hfit : fr + tot L ≤ 9223372036854775807) (hN : N < maxLen) :
    Calls Try.prog 24 #[.pointer (some ⟨d, 0, none⟩), .string (bstr s), .string (bstr t)] w fun e w' => e = .returned (.int .i64 0) ∧ Stp w w' d m L (wth { f with name := t } (wto s (wto t L))) (fr + (by_ (lk t L)).length) (N + 1) := by
  have hf := find_any s w h hl
  rw [e] at hf
  simp only [pv, fc] at hf
  have ht2 : 0 < t.length ∧ t.length ≤ 64 := by simpa [okN] using ht
  have hi := isName_any t w
  rw [ht] at hi
  have hd := drop_any t w h (by unfold maxLen; omega) hfit
  have fin := fun (w1 w2 wf w3 : World) => h.renamed (w1 := w1) (w2 := w2) (wf := wf) (w3 := w3) (fr' := fr + (by_ (lk t L)).length) e hst ht2
  have hb3 : ((bstr s).toList == (bstr t).toList) = false := by rw [toList_bstr, toList_bstr]; simpa using hst
  generalize fr + (by_ (lk t L)).length = fr' at *
  generalize hg : f.g = g at *
  go_enter Try.func24, Try.ntmps24
  go_wp2_with fail
  refine hf.mono ?_
  rintro e w1 ⟨rfl, rfl⟩
  go_wp2_with fail
  refine hi.mono ?_
  rintro e w1 ⟨rfl, rfl⟩
  go_wp2_with fail
  refine hd.mono ?_
  rintro e w1 ⟨rfl, hS1⟩
  have hD1 := hS1.dk
  have d1 : w1.cell? ⟨d, 1, none⟩ = some (.map (some m)) := (cells_block hD1.blk).1 1
  clear hf hi hd h
  go_wp2_with (at_delete; refine wpList_del hD1 s rfl _ _ rfl rfl rfl hl ?_; intro w2 ht2 hD2; clear d1; have dW : w2.cell? ⟨d, 1, none⟩ = some (.map (some m)) := (cells_block hD2.blk).1 1)
  go_region_held3 (fun w' => w'.cell? ⟨d, 1, none⟩ = some (.map (some m))) (first | with_reducible exact dW | with_reducible exact dV | go_keep)
    ((go_at_call 35; refine (CClone_any t _ (by omega)).mono ?_; rintro e wf ⟨rfl, hbf⟩; have hDf : Dk wf d m (wto s (wto t L)) fr' N := hD2.drew.below hbf; clear dW; have dW : wf.cell? ⟨d, 1, none⟩ = some (.map (some m)) := (cells_block hDf.blk).1 1; obtain ⟨w3, hrun, ht3, hm3⟩ := hDf.stores { f with name := t } hN (by simp only [maxLen]; omega); simp only [hg] at hrun; have dV : w3.cell? ⟨d, 1, none⟩ = some (.map (some m)) := (World.cell?_of_block (ht3.grown.block d (hDf.lt (Or.inl rfl)) (fun e => hDf.ne (by cases e; rfl)))).trans dW))
  go_wp2
  go_ret
  subst hg
  exact ⟨rfl, fin w1 w2.drew wf w3 hS1 hD2.drew (grown_drew ht2.grown) hbf ht3 hm3⟩

end Go.Proofs.Ytbnenpfphbdmpaa
