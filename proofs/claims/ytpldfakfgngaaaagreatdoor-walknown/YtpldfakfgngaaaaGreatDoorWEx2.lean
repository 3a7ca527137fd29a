/-
  A log told exactly: Append to a new file, no room, Sync, Drop, Cut; a crash that keeps nothing.
-/
import Derived.Test.YtpldfakfgngaaaaGreatDoorWEx
namespace Go.Proofs.YtpldfakfgngaaaaGreatDoor
open Go.RowKit

theorem Lg.syncG {p : List UInt8} {G : WF} {P : List F3} (h : Lg p G P) : Lg p G (syG p G P) := by
  rcases snoc_cases G with rfl | ⟨A, x, rfl⟩
  · exact h
  · have eg : syG p (A ++ [x]) P = syW (nm p x.1) P := by simp [syG]
    rw [eg]
    exact h.sync (by simp)
theorem totP_syG {p : List UInt8} {G : WF} {P : List F3} (h : SrtP P) : totP (syG p G P) = totP P := by
  unfold syG
  split
  · rfl
  · exact totP_syW h _
theorem Lg.lt_nxt {p : List UInt8} {G : WF} {P : List F3} (h : Lg p G P) (hl : ∀ A x, G = A ++ [x] → x.2 ≠ []) : ∀ x ∈ G, x.1 < nxtF G := fun x hx => by
  rcases snoc_cases G with rfl | ⟨A, y, rfl⟩
  · simp at hx
  · have e : nxtF (A ++ [y]) = y.1 + y.2.length := by simp [nxtF]
    have hy : 0 < y.2.length := List.length_pos_iff.2 (hl A y rfl)
    rcases List.mem_append.1 hx with hx | hx
    · have := (List.pairwise_append.1 h.inc).2.2 x hx y (by simp)
      omega
    · rw [List.mem_singleton.1 hx]
      omega
theorem Lg.no_file {p : List UInt8} {G : WF} {P : List F3} (h : Lg p G P) {n : Nat} (hn : okNo n) (hlt : ∀ x ∈ G, x.1 < n) : lkP (nm p n) P = none := by
  cases e : lkP (nm p n) P with
  | none => rfl
  | some f =>
    have : n ∈ Go.Proofs.YtpldfakfgngaaaaGreatDoor.nos p P := mem_nos_lk.2 ⟨by rw [e]; rfl, hn⟩
    rw [h.nos] at this
    obtain ⟨x, hx, rfl⟩ := List.mem_map.1 this
    exact absurd (hlt x hx) (Nat.lt_irrefl _)
theorem AppNew_ex {B : Nat} {w : World} {m : Nat} {k : Wk} {G : WF} {P : List F3} {R N : Nat} (r : List UInt8) (h : Ex B w m k G P R N) (hr : r.length ≤ 1048576) (hR : R ≤ 1099511627776) (hroom : totP P + (r.length + 8) ≤ R) (hN : N ≤ 100000) (h1 : 1 ≤ nxtF G) (hx : nxtF G ≤ 1000000) (hs : ∀ A x, G = A ++ [x] → k.most ≤ (totS x.2 : Int) ∧ x.2 ≠ []) :
    Calls Tryz.prog 13 #[.pointer (some ⟨k.g, 0, none⟩), .string (bstr r)] w fun e w' => e = .returned (.int .i64 0) ∧ Ex B w' m k (G ++ [(nxtF G, [r])]) (wthP (nm k.p (nxtF G), frm r, 0) (syG k.p G P)) R (N + 2) ∧ Below B w w' := by
  have hlg := h.lg
  have hfl := frm_length r
  have hlt := hlg.lt_nxt (fun A x e => (hs A x e).2)
  have hlg2 := hlg.syncG.app_new hr 0 (n := nxtF G) (fun _ => rfl) ⟨h1, by omega⟩ hlt
  have hno := hlg.syncG.no_file (n := nxtF G) ⟨h1, by omega⟩ hlt
  have hst := totP_syG (p := k.p) (G := G) hlg.srt
  obtain ⟨L, fe, F, v, a1, rfl, rfl, a4⟩ := h.go
  have hto : totP (Pu L) = tot L := totP_Pu L
  have hl := lg_len hlg a1.dk
  have el : (Pw F).length = F.length := by simp [Pw]
  rw [hto] at hst hroom
  have hsF : F = [] ∨ ∃ F0 f, F = F0 ++ [f] ∧ k.most ≤ (totS f.recs : Int) := by
    rcases snoc_cases F with e | ⟨F0, f, e⟩
    · exact Or.inl e
    · refine Or.inr ⟨F0, f, e, (hs (Pw F0) (pw f) (by rw [e]; simp [Pw])).1⟩
  rw [← syF_pw] at hst hno
  refine (wApp_new r w a1 (by omega) h.pl hsF (fun f hf => (hlg.ok (List.mem_map.2 ⟨f, hf, rfl⟩)).2) (by omega) hr (by omega) (by rw [hst]; omega) (by omega) (by rw [hst]; omega)).mono ?_
  rintro e w' ⟨rfl, L', fr', f, v', b1, b2, b3, b4, b5⟩
  rw [apA_ok (nm_ok h.pl _) (by rw [hst]; omega), ofP_lk, hno] at b4
  refine ⟨rfl, ⟨⟨L', fr', F ++ [f], v', b1, ?_, ?_, by omega⟩, hlg2, h.pl⟩, a1.frame b2⟩
  · show (F ++ [f]).map pw = _
    rw [List.map_append, List.map_singleton, b3]
    rfl
  · rw [b4, ← syF_pw]
    rfl
theorem AppFull_ex {B : Nat} {w : World} {m : Nat} {k : Wk} {G : WF} {P : List F3} {R N : Nat} (r : List UInt8) (h : Ex B w m k G P R N) (hr : r.length ≤ 1048576) (hR : R ≤ 1099511627776) (hroom : R < totP P + (r.length + 8)) (hN : N ≤ 100000) (hx : nxtF G ≤ 1000000) (hs : ∀ A x, G = A ++ [x] → k.most ≤ (totS x.2 : Int)) :
    Calls Tryz.prog 13 #[.pointer (some ⟨k.g, 0, none⟩), .string (bstr r)] w fun e w' => e = .returned (.int .i64 7) ∧ Ex B w' m k G (syG k.p G P) R (N + 2) ∧ Below B w w' := by
  have hlg := h.lg
  have hfl := frm_length r
  have hst := totP_syG (p := k.p) (G := G) hlg.srt
  have hlg2 := hlg.syncG
  obtain ⟨L, fe, F, v, a1, rfl, rfl, a4⟩ := h.go
  have hto : totP (Pu L) = tot L := totP_Pu L
  have hl := lg_len hlg a1.dk
  have el : (Pw F).length = F.length := by simp [Pw]
  rw [hto] at hst hroom
  have hsF : F = [] ∨ ∃ F0 f, F = F0 ++ [f] ∧ k.most ≤ (totS f.recs : Int) := by
    rcases snoc_cases F with e | ⟨F0, f, e⟩
    · exact Or.inl e
    · refine Or.inr ⟨F0, f, e, hs (Pw F0) (pw f) (by rw [e]; simp [Pw])⟩
  rw [← syF_pw] at hst
  refine (wApp_full r w a1 (by omega) h.pl hsF (fun f hf => (hlg.ok (List.mem_map.2 ⟨f, hf, rfl⟩)).2) (by omega) hr (by omega) (by rw [hst]; omega) (by omega) (by rw [hst]; omega)).mono ?_
  rintro e w' ⟨rfl, L', fr', b1, b2, b3, b4⟩
  exact ⟨rfl, ⟨⟨L', fr', F, v, b1, rfl, by rw [b3, syF_pw], by omega⟩, hlg2, h.pl⟩, a1.frame b2⟩
theorem Sync_ex {B : Nat} {w : World} {m : Nat} {k : Wk} {G : WF} {P : List F3} {R N : Nat} (h : Ex B w m k G P R N) (hN : N ≤ 100000) :
    Calls Tryz.prog 17 #[.pointer (some ⟨k.g, 0, none⟩)] w fun e w' => e = .returned (.int .i64 0) ∧ Ex B w' m k G (syG k.p G P) R (N + 1) ∧ Below B w w' := by
  have hlg := h.lg
  have hlg2 := hlg.syncG
  obtain ⟨L, fe, F, v, a1, rfl, rfl, a4⟩ := h.go
  have hl := lg_len hlg a1.dk
  have el : (Pw F).length = F.length := by simp [Pw]
  refine (wSync_all w a1 (by omega) h.pl (fun f hf => (hlg.ok (List.mem_map.2 ⟨f, hf, rfl⟩)).2)).mono ?_
  rintro e w' ⟨rfl, L', fr', b1, b2, b3, b4⟩
  exact ⟨rfl, ⟨⟨L', fr', F, v, b1, rfl, by rw [b3, syF_pw], by omega⟩, hlg2, h.pl⟩, a1.frame b2⟩
theorem CutArg_ex {B : Nat} {w : World} {m : Nat} {k : Wk} {G : WF} {P : List F3} {R N : Nat} (c : Nat) (h : Ex B w m k G P R N) (h1 : c < fstF G) :
    Calls Tryz.prog 18 #[.pointer (some ⟨k.g, 0, none⟩), .int .u64 (c : Int)] w fun e w' => e = .returned (.int .i64 2) ∧ w' = w := by
  obtain ⟨L, fe, F, v, a1, rfl, rfl, a4⟩ := h.go
  exact Cut_arg c w a1.wm h1
theorem CutOver_ex {B : Nat} {w : World} {m : Nat} {k : Wk} {G : WF} {P : List F3} {R N : Nat} (c : Nat) (h : Ex B w m k G P R N) (hN : N ≤ 100000) (hx : nxtF G ≤ 1000000) (h1 : fstF G ≤ c) (h2 : nxtF G ≤ c) :
    Calls Tryz.prog 18 #[.pointer (some ⟨k.g, 0, none⟩), .int .u64 (c : Int)] w fun e w' => e = .returned (.int .i64 0) ∧ Below w.heap.size w w' := by
  have hlg := h.lg
  obtain ⟨L, fe, F, v, a1, rfl, rfl, a4⟩ := h.go
  have hl := lg_len hlg a1.dk
  have el : (Pw F).length = F.length := by simp [Pw]
  exact Cut_over c w a1.wm (by omega) h1 h2 (by omega)
/-- A crash that keeps nothing of what is not synced. -/
def cr0 (P : List F3) : List F3 := P.map fun f => (f.1, f.2.1.take f.2.2, f.2.2)
theorem cr0_of {L L' : List Fl} (h : Cr [] L.length L L') : Pu L' = cr0 (Pu L) := by
  have hl := h.len
  apply List.ext_getElem
  · simp [Pu, cr0, hl]
  · intro j h1 h2
    have hj : j < L.length := by simpa [Pu, hl] using h1
    obtain ⟨v', e⟩ := h.old j hj hj
    simp only [Pu, cr0, List.getElem_map]
    rw [e]
    simp [pu, crF, kAt, kn]
theorem Crash0_db {B : Nat} {w : World} {d m : Nat} {L : List Fl} {fr N : Nat} (h : Db B w d m L fr N) (hN : N ≤ 100000) (hR : fr + tot L ≤ 1099511627776) :
    Calls Tryz.prog 24 #[.pointer (some ⟨d, 0, none⟩), .slice none 0 0] w fun e w' => e = .returned (.tuple #[]) ∧ ∃ L' fr', Db B w' d m L' fr' N ∧ Pu L' = cr0 (Pu L) ∧ fr' + tot L' = fr + tot L ∧ Below B w w' := by
  refine (Crash_any none 0 [] w h.dk (by omega) (fun h0 => absurd h0 (by simp)) (by omega) (by omega)).mono ?_
  rintro e w' ⟨rfl, L', fr', hc, hr, hS⟩
  have hb := hS.kp.below h.vw.le h.ge
  refine ⟨rfl, L', fr', ⟨hS.dk, fun i hi => ?_, h.vw.below hb⟩, cr0_of hc, hr, hb⟩
  rcases hS.ft i hi with a | a
  · exact h.ge i a
  · exact Nat.le_trans h.vw.le a

end Go.Proofs.YtpldfakfgngaaaaGreatDoor
