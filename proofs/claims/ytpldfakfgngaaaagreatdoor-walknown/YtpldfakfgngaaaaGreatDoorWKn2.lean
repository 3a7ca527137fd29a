/-
  WalKnown's appends, with a block beside the log.
-/
import Derived.Test.YtpldfakfgngaaaaGreatDoorWKn
namespace Go.Proofs.YtpldfakfgngaaaaGreatDoor
open Go.RowKit

structure ExF (B : Nat) (w : World) (m : Nat) (k : Wk) (G : WF) (P : List F3) (R N g : Nat) : Prop where
  go : ∃ L fe F v, Lo B w m L fe N k F v ∧ Pw F = G ∧ Pu L = P ∧ fe + tot L = R ∧ g < w.heap.size ∧ ¬ Ft k.d m L g ∧ ¬ Fw k F v g
  lg : Lg k.p G P
  pl : k.p.length ≤ 48
theorem far_step {w w' : World} {m : Nat} {L L' : List Fl} {k : Wk} {F F' : List Wf} {v v' : Value} {g : Nat} (h : Ks w w' m L L' k F F' v v') (h1 : g < w.heap.size) (h2 : ¬ Ft k.d m L g) (h3 : ¬ Fw k F v g) : g < w'.heap.size ∧ ¬ Ft k.d m L' g ∧ ¬ Fw k F' v' g ∧ w'.heap[g]? = w.heap[g]? := by
  refine ⟨Nat.lt_of_lt_of_le h1 h.kp.size, fun e => ?_, fun e => ?_, h.kp.block g h1 (fun e => e.elim h2 h3)⟩
  · rcases h.ft g e with a | a
    · exact h2 a
    · omega
  · rcases h.fw g e with a | a
    · exact h3 a
    · omega
theorem Ex.far {B : Nat} {w w' : World} {m : Nat} {k : Wk} {G : WF} {P : List F3} {R N : Nat} (h : Ex B w m k G P R N) (hb : Below w.heap.size w w') (hl : w.heap.size < w'.heap.size) : ExF B w' m k G P R N w.heap.size := by
  obtain ⟨L, fe, F, v, a1, a2, a3, a4⟩ := h.go
  exact ⟨⟨L, fe, F, v, a1.below hb, a2, a3, a4, hl, fun e => Nat.lt_irrefl _ (a1.dk.lt e), fun e => Nat.lt_irrefl _ (a1.wm.lt e)⟩, h.lg, h.pl⟩
theorem ExF.ex {B : Nat} {w : World} {m : Nat} {k : Wk} {G : WF} {P : List F3} {R N g : Nat} (h : ExF B w m k G P R N g) : Ex B w m k G P R N := by
  obtain ⟨L, fe, F, v, a1, a2, a3, a4, _⟩ := h.go
  exact ⟨⟨L, fe, F, v, a1, a2, a3, a4⟩, h.lg, h.pl⟩
theorem ExF.as {B : Nat} {w : World} {m : Nat} {k : Wk} {G G' : WF} {P P' : List F3} {R N N' g : Nat} (h : ExF B w m k G P R N g) (hG : G = G') (hP : P = P') (hN : N ≤ N') : ExF B w m k G' P' R N' g := by
  subst hG hP
  obtain ⟨L, fe, F, v, a1, a2, a3, a4⟩ := h.go
  exact ⟨⟨L, fe, F, v, ⟨a1.dk.mono hN, a1.wm, a1.geD, a1.geW, a1.vw⟩, a2, a3, a4⟩, h.lg, h.pl⟩
theorem AppOld_exF {B : Nat} {w : World} {m : Nat} {k : Wk} {A : WF} {n : Nat} {q : List (List UInt8)} {P : List F3} {R N g : Nat} (r : List UInt8) (h : ExF B w m k (A ++ [(n, q)]) P R N g) (hr : r.length ≤ 1048576) (hR : R ≤ 1099511627776) (hroom : totP P + (r.length + 8) ≤ R) (hN : N ≤ 100000) (hs : (totS q : Int) < k.most) :
    Calls Tryz.prog 13 #[.pointer (some ⟨k.g, 0, none⟩), .string (bstr r)] w fun e w' => e = .returned (.int .i64 0) ∧ ExF B w' m k (A ++ [(n, q ++ [r])]) (wthP (nm k.p n, gtP (nm k.p n) P ++ frm r, syP (nm k.p n) P) P) R (N + 2) g ∧ Below B w w' ∧ w'.heap[g]? = w.heap[g]? := by
  have hlg := h.lg
  have hfl := frm_length r
  have hlg2 := hlg.app_old hr (syP (nm k.p n) P)
  obtain ⟨L, fe, F, v, a1, a2, rfl, a4, g1, g2, g3⟩ := h.go
  have hto : totP (Pu L) = tot L := totP_Pu L
  have hl := lg_len hlg a1.dk
  rcases snoc_cases F with rfl | ⟨F0, f, rfl⟩
  · simp [Pw] at a2
  · have e2 : Pw (F0 ++ [f]) = Pw F0 ++ [(f.num, f.recs)] := by simp [Pw, pw]
    rw [e2] at a2
    obtain ⟨rfl, e3⟩ := List.append_inj' a2 rfl
    cases e3
    have hgt := hlg.gt (f.num, f.recs) (by simp)
    have hgl : totS f.recs ≤ tot L := by
      have hgt : gtP (nm k.p f.num) (Pu L) = fr f.recs := hgt
      rw [← fr_length, ← hgt]
      exact gtP_le _ _
    have htl := tot_len f.recs
    have e4 : (Pw F0 ++ [(f.num, f.recs)]).length = F0.length + 1 := by simp [Pw]
    refine (wApp_old r w a1 (by omega) h.pl hs hr (by omega) (by omega) (by omega) (by omega) (by omega) (by rw [hto]; omega)).mono ?_
    rintro e w' ⟨rfl, L', fr', f', b1, b2, b3, b4, b5⟩
    rw [apA_ok (nm_ok h.pl _) (by rw [hto]; omega)] at b4
    refine ⟨rfl, ⟨⟨L', fr', F0 ++ [f'], v, ⟨b1.dk.mono (by omega), b1.wm, b1.geD, b1.geW, b1.vw⟩, ?_, b4, by omega, (far_step b2 g1 g2 g3).1, (far_step b2 g1 g2 g3).2.1, (far_step b2 g1 g2 g3).2.2.1⟩, hlg2, h.pl⟩, a1.frame b2, (far_step b2 g1 g2 g3).2.2.2⟩
    show (F0 ++ [f']).map pw = _
    rw [List.map_append, List.map_singleton, b3]
    rfl
theorem AppNew_exF {B : Nat} {w : World} {m : Nat} {k : Wk} {G : WF} {P : List F3} {R N g : Nat} (r : List UInt8) (h : ExF B w m k G P R N g) (hr : r.length ≤ 1048576) (hR : R ≤ 1099511627776) (hroom : totP P + (r.length + 8) ≤ R) (hN : N ≤ 100000) (h1 : 1 ≤ nxtF G) (hx : nxtF G ≤ 1000000) (hs : ∀ A x, G = A ++ [x] → k.most ≤ (totS x.2 : Int) ∧ x.2 ≠ []) :
    Calls Tryz.prog 13 #[.pointer (some ⟨k.g, 0, none⟩), .string (bstr r)] w fun e w' => e = .returned (.int .i64 0) ∧ ExF B w' m k (G ++ [(nxtF G, [r])]) (wthP (nm k.p (nxtF G), frm r, 0) (syG k.p G P)) R (N + 2) g ∧ Below B w w' ∧ w'.heap[g]? = w.heap[g]? := by
  have hlg := h.lg
  have hfl := frm_length r
  have hlt := hlg.lt_nxt (fun A x e => (hs A x e).2)
  have hlg2 := hlg.syncG.app_new hr 0 (n := nxtF G) (fun _ => rfl) ⟨h1, by omega⟩ hlt
  have hno := hlg.syncG.no_file (n := nxtF G) ⟨h1, by omega⟩ hlt
  have hst := totP_syG (p := k.p) (G := G) hlg.srt
  obtain ⟨L, fe, F, v, a1, rfl, rfl, a4, g1, g2, g3⟩ := h.go
  have hto : totP (Pu L) = tot L := totP_Pu L
  have hl := lg_len hlg a1.dk
  have el : (Pw F).length = F.length := by simp [Pw]
  rw [hto] at hst hroom
  have hsF : F = [] ∨ ∃ F0 f, F = F0 ++ [f] ∧ k.most ≤ (totS f.recs : Int) := by
    rcases snoc_cases F with e | ⟨F0, f, e⟩
    · exact Or.inl e
    · refine Or.inr ⟨F0, f, e, (hs (Pw F0) (pw f) (by rw [e]; simp [Pw])).1⟩
  rw [← syF_pw] at hst hno
  refine (wApp_new r w a1 (by omega) h.pl hsF (fun f hf => (hlg.ok (List.mem_map.2 ⟨f, hf, rfl⟩)).2) (by omega) hr (by omega) (by rw [hst]; omega) (by omega) (by rw [hst]; omega)).mono ?_
  rintro e w' ⟨rfl, L', fr', f, v', b1, b2, b3, b4, b5⟩
  rw [apA_ok (nm_ok h.pl _) (by rw [hst]; omega), ofP_lk, hno] at b4
  refine ⟨rfl, ⟨⟨L', fr', F ++ [f], v', b1, ?_, ?_, by omega, (far_step b2 g1 g2 g3).1, (far_step b2 g1 g2 g3).2.1, (far_step b2 g1 g2 g3).2.2.1⟩, hlg2, h.pl⟩, a1.frame b2, (far_step b2 g1 g2 g3).2.2.2⟩
  · show (F ++ [f]).map pw = _
    rw [List.map_append, List.map_singleton, b3]
    rfl
  · rw [b4, ← syF_pw]
    rfl
/-- One append of the four. -/
theorem kAppF {B : Nat} {w : World} {m : Nat} {k : Wk} {i g : Nat} (hi : i < 4) (hm : k.most = 20) (h : ExF B w m k (kG i) (kP k.p i) 1000 (30 + 2 * i) g) :
    Calls Tryz.prog 13 #[.pointer (some ⟨k.g, 0, none⟩), .string (bstr (kS i))] w fun e w' => e = .returned (.int .i64 0) ∧ ExF B w' m k (kG (i + 1)) (kP k.p (i + 1)) 1000 (30 + 2 * (i + 1)) g ∧ Below B w w' ∧ w'.heap[g]? = w.heap[g]? := by
  have la := frm_length [97]
  have lb := frm_length [98]
  have lc := frm_length [99]
  simp only [List.length_cons, List.length_nil] at la lb lc
  match i, hi with
  | 0, _ =>
    refine (AppNew_exF [97] h (by decide) (by decide) (by simp [kP, totP]) (by decide) (by decide) (by decide) (fun A x e => by simp [kG] at e)).mono ?_
    rintro e w' ⟨rfl, hE, hb, hg⟩
    exact ⟨rfl, hE.as rfl rfl (by omega), hb, hg⟩
  | 1, _ =>
    refine (AppOld_exF (A := []) [98] h (by decide) (by decide) (by show totP [(nm k.p 1, frm [97], 0)] + _ ≤ _; rw [tot1, la]; decide) (by decide) (by rw [hm]; decide)).mono ?_
    rintro e w' ⟨rfl, hE, hb, hg⟩
    refine ⟨rfl, hE.as rfl ?_ (by omega), hb, hg⟩
    show wthP (nm k.p 1, gtP (nm k.p 1) [(nm k.p 1, frm [97], 0)] ++ frm [98], syP (nm k.p 1) [(nm k.p 1, frm [97], 0)]) [(nm k.p 1, frm [97], 0)] = [(nm k.p 1, frm [97] ++ frm [98], 0)]
    rw [l_gt, l_sy, l_same]
  | 2, _ =>
    refine (AppOld_exF (A := []) [99] h (by decide) (by decide) (by show totP [(nm k.p 1, frm [97] ++ frm [98], 0)] + _ ≤ _; rw [tot1, List.length_append, la, lb]; decide) (by decide) (by rw [hm]; decide)).mono ?_
    rintro e w' ⟨rfl, hE, hb, hg⟩
    refine ⟨rfl, hE.as rfl ?_ (by omega), hb, hg⟩
    show wthP (nm k.p 1, gtP (nm k.p 1) [(nm k.p 1, frm [97] ++ frm [98], 0)] ++ frm [99], syP (nm k.p 1) [(nm k.p 1, frm [97] ++ frm [98], 0)]) [(nm k.p 1, frm [97] ++ frm [98], 0)] = [(nm k.p 1, frm [97] ++ frm [98] ++ frm [99], 0)]
    rw [l_gt, l_sy, l_same]
  | 3, _ =>
    refine (AppNew_exF [100] h (by decide) (by decide) (by show totP [(nm k.p 1, frm [97] ++ frm [98] ++ frm [99], 0)] + _ ≤ _; rw [tot1, List.length_append, List.length_append, la, lb, lc]; decide) (by decide) (by decide) (by decide) (fun A x e => by
      have e2 : A ++ [x] = [] ++ [(1, [[97], [98], [99]])] := e.symm
      obtain ⟨_, e3⟩ := List.append_inj' e2 rfl
      cases e3
      rw [hm]
      exact ⟨by decide, by simp⟩)).mono ?_
    rintro e w' ⟨rfl, hE, hb, hg⟩
    refine ⟨rfl, hE.as rfl ?_ (by omega), hb, hg⟩
    show wthP (nm k.p 4, frm [100], 0) (syG k.p [(1, [[97], [98], [99]])] [(nm k.p 1, frm [97] ++ frm [98] ++ frm [99], 0)]) = [(nm k.p 1, frm [97] ++ frm [98] ++ frm [99], (frm [97] ++ frm [98] ++ frm [99]).length), (nm k.p 4, frm [100], 0)]
    rw [l_syG, l_behind (n14 k.p)]

end Go.Proofs.YtpldfakfgngaaaaGreatDoor
