/-
  A log all of whose records are synced, as lists: what Drop, Cut, a crash and Open make of it.
-/
import Derived.Test.YtpldfakfgngaaaaGreatDoorWCut2
namespace Go.Proofs.YtpldfakfgngaaaaGreatDoor
open Go.RowKit

structure Fs (p : List UInt8) (F : WF) (P : List F3) : Prop where
  lg : Lg p F P
  names : ∀ f ∈ P, ∃ x ∈ F, f.1 = nm p x.1
  full : ∀ x ∈ F, (gtP (nm p x.1) P).length ≤ syP (nm p x.1) P
theorem Fs.of_ap {p : List UInt8} {F : WF} {P : List F3} {rs : List (List UInt8)} (h : Ap p F P rs rs.length) : Fs p F P := by
  refine ⟨h.lg, h.names, fun x hx => ?_⟩
  rcases snoc_cases F with rfl | ⟨A, y, rfl⟩
  · simp at hx
  · rcases List.mem_append.1 hx with hx | hx
    · rw [h.full x (by rw [List.dropLast_concat]; exact hx)]
      exact Nat.le_refl _
    · obtain rfl := List.mem_singleton.1 hx
      have h1 := h.syn A x rfl
      have h2 := last_len h.lg.chn (A := A) (x := x) rfl
      rw [h.fst, h.flat] at h2
      rw [show rs.length + 1 - x.1 = x.2.length by omega, List.take_length] at h1
      rw [h.lg.gt x (by simp), fr_length]
      exact h1
theorem Fs.sp_none {p : List UInt8} {F : WF} {P : List F3} (h : Fs p F P) : lkP (sp p) P = none := lkP_eq_none fun f hf e => by
  obtain ⟨x, hx, e2⟩ := h.names f hf
  exact sp_alien p x.1 (h.lg.ok hx).1 (e.symm.trans e2)
theorem syP_wto_other {P : List F3} (h : SrtP P) {t s : List UInt8} (hs : s ≠ t) : syP s (wtoP t P) = syP s P := by
  unfold syP
  rw [ofP_lk, ofP_lk, lkP_wto_other h hs]
/-- A file given up. -/
theorem Fs.rm {p : List UInt8} {F F' : WF} {a : Nat × List (List UInt8)} {P : List F3} (h : Fs p F P) (ha : a ∈ F) (hF : ∀ x, x ∈ F' ↔ x ∈ F ∧ x.1 ≠ a.1) (hn : F'.map (fun x => x.1) = (F.map (fun x => x.1)).filter (fun x => x != a.1)) (hc : Chn F') : Fs p F' (wtoP (nm p a.1) P) := by
  have hne : ∀ x ∈ F', nm p x.1 ≠ nm p a.1 := fun x hx e => by
    have h1 := (hF x).1 hx
    exact h1.2 (nm_inj p (h.lg.ok h1.1).1.2 (h.lg.ok ha).1.2 e)
  refine ⟨⟨wtoP_srt h.lg.srt, ?_, fun x hx => ?_, fun x hx => h.lg.small x ((hF x).1 hx).1, hc⟩, fun f hf => ?_, fun x hx => ?_⟩
  · rw [nos_wto h.lg.srt (h.lg.ok ha).1, h.lg.nos, hn]
  · rw [gtP_wto_other h.lg.srt (hne x hx)]
    exact h.lg.gt x ((hF x).1 hx).1
  · obtain ⟨h1, h2⟩ := wtoP_mem.1 hf
    obtain ⟨x, hx, e⟩ := h.names f h1
    exact ⟨x, (hF x).2 ⟨hx, fun e2 => h2 (by rw [e, e2])⟩, e⟩
  · rw [gtP_wto_other h.lg.srt (hne x hx), syP_wto_other h.lg.srt (hne x hx)]
    exact h.full x ((hF x).1 hx).1
theorem Fs.rm_first {p : List UInt8} {a b : Nat × List (List UInt8)} {r : WF} {P : List F3} (h : Fs p (a :: b :: r) P) : Fs p (b :: r) (wtoP (nm p a.1) P) := by
  have hi := (List.pairwise_cons.1 h.lg.inc).1
  refine h.rm (a := a) (by simp) (fun x => ⟨fun hx => ⟨List.mem_cons_of_mem _ hx, by have := hi x hx; omega⟩, fun hx => ?_⟩) ?_ h.lg.chn.2
  · rcases List.mem_cons.1 hx.1 with rfl | h1
    · exact absurd rfl hx.2
    · exact h1
  · rw [List.map_cons (l := b :: r), List.filter_cons]
    simp only [bne_self_eq_false, Bool.false_eq_true, if_false]
    refine (List.filter_eq_self.2 fun x hx => ?_).symm
    obtain ⟨y, hy, rfl⟩ := List.mem_map.1 hx
    have := hi y hy
    have h3 : y.1 ≠ a.1 := by omega
    simpa using h3
theorem Fs.rm_last {p : List UInt8} {x : Nat × List (List UInt8)} {A : WF} {P : List F3} (h : Fs p (A ++ [x]) P) : Fs p A (wtoP (nm p x.1) P) := by
  have hi := (List.pairwise_append.1 h.lg.inc).2.2
  refine h.rm (a := x) (by simp) (fun y => ⟨fun hy => ⟨by simp [hy], by have := hi y hy x (by simp); omega⟩, fun hy => ?_⟩) ?_ (chn_init h.lg.chn)
  · rcases List.mem_append.1 hy.1 with h1 | h1
    · exact h1
    · rw [List.mem_singleton.1 h1] at hy
      exact absurd rfl hy.2
  · rw [List.map_append, List.filter_append]
    have e1 : (A.map (fun x => x.1)).filter (fun z => z != x.1) = A.map (fun x => x.1) := List.filter_eq_self.2 fun z hz => by
      obtain ⟨y, hy, rfl⟩ := List.mem_map.1 hz
      have := hi y hy x (by simp)
      have h3 : y.1 ≠ x.1 := by omega
      simpa using h3
    rw [e1]
    simp
theorem Fs.rms {p : List UInt8} {P : List F3} : ∀ (R : List Wf) {A : WF}, Fs p (A ++ Pw R) P → Fs p A (rmAll p ((R.map (fun x => x.num)).reverse) P)
  | [], A, h => by
    have e : A ++ Pw [] = A := by simp [Pw]
    rw [e] at h
    exact h
  | x :: R, A, h => by
    have e : A ++ Pw (x :: R) = (A ++ [pw x]) ++ Pw R := by simp [Pw]
    rw [e] at h
    rw [rmAll_tail]
    exact (Fs.rms R h).rm_last
/-- A last file with its first records. -/
theorem Fs.short {p : List UInt8} {A : WF} {n : Nat} {q : List (List UInt8)} {P : List F3} (h : Fs p (A ++ [(n, q)]) P) (i : Nat) : Fs p (A ++ [(n, q.take i)]) (wthP (nm p n, fr (q.take i), totS (q.take i)) P) := by
  have hm : (n, q) ∈ A ++ [(n, q)] := by simp
  have hin : n ∈ nos p P := by rw [h.lg.nos]; simp
  have hne : ∀ x ∈ A, nm p x.1 ≠ nm p n := fun x hx e => by
    have e2 := nm_inj p (h.lg.ok (by simp [hx] : x ∈ A ++ [(n, q)])).1.2 (h.lg.ok hm).1.2 e
    have := (List.pairwise_append.1 h.lg.inc).2.2 x hx (n, q) (by simp)
    omega
  have hg : gtP (nm p n) (wthP (nm p n, fr (q.take i), totS (q.take i)) P) = fr (q.take i) := gtP_wth_same h.lg.srt (nm p n, fr (q.take i), totS (q.take i))
  have hs : syP (nm p n) (wthP (nm p n, fr (q.take i), totS (q.take i)) P) = totS (q.take i) := syP_wth_same h.lg.srt (nm p n, fr (q.take i), totS (q.take i))
  refine ⟨⟨wthP_srt h.lg.srt, ?_, fun x hx => ?_, fun x hx => ?_, chn_snoc h.lg.chn rfl⟩, fun f hf => ?_, fun x hx => ?_⟩
  · rw [nos_wth_old h.lg.srt hin, h.lg.nos]; simp
  · rcases List.mem_append.1 hx with hx | hx
    · rw [gtP_wth_other h.lg.srt (hne x hx)]
      exact h.lg.gt x (by simp [hx])
    · rw [List.mem_singleton.1 hx]
      exact hg
  · rcases List.mem_append.1 hx with hx | hx
    · exact h.lg.small x (by simp [hx])
    · rw [List.mem_singleton.1 hx]
      exact fun r hr => h.lg.small (n, q) hm r (List.mem_of_mem_take hr)
  · rcases (wthP_mem h.lg.srt).1 hf with rfl | ⟨hf, _⟩
    · exact ⟨(n, q.take i), by simp, rfl⟩
    · obtain ⟨x, hx, e⟩ := h.names f hf
      rcases List.mem_append.1 hx with hx | hx
      · exact ⟨x, by simp [hx], e⟩
      · rw [List.mem_singleton.1 hx] at e
        exact ⟨(n, q.take i), by simp, e⟩
  · rcases List.mem_append.1 hx with hx | hx
    · rw [gtP_wth_other h.lg.srt (hne x hx), syP_wth_other h.lg.srt (hne x hx)]
      exact h.full x (by simp [hx])
    · rw [List.mem_singleton.1 hx]
      show (gtP (nm p n) _).length ≤ syP (nm p n) _
      rw [hg, hs, fr_length]
      exact Nat.le_refl _
/-- Behind a crash all is there. -/
theorem Fs.open {p : List UInt8} {F : WF} {P P' : List F3} (h : Fs p F P) (hc : Crs P P') (R : Nat) : opP p R P' = (P', F, 0) := by
  have hs' := srt_names hc.names h.lg.srt
  have hsp : lkP (sp p) P' = none := hc.lk_none h.sp_none
  have hno : nos p P' = F.map (fun x => x.1) := (nos_names hc.names).trans h.lg.nos
  have hop : opP p R P' = ldP p R none (F.map (fun x => x.1)) P' := by unfold opP; rw [wtoP_none hsp, hno]
  have hA : ∀ x ∈ F, gtP (nm p x.1) P' = fr x.2 := fun x hx => by
    obtain ⟨_, hsm⟩ := h.lg.ok hx
    obtain ⟨f, hf⟩ := Option.isSome_iff_exists.1 hsm
    obtain ⟨c, c1, c2, c3⟩ := hc.at_ _ f hf
    have hgt := h.lg.gt x hx
    have hfu := h.full x hx
    have hsy : syP (nm p x.1) P = f.2.2 := by unfold syP; rw [ofP_lk, hf]; rfl
    rw [hsy, gtP_some hf] at hfu
    rw [gtP_some hf] at hgt
    rw [gtP_some c3, ← hgt]
    exact List.take_of_length_le (by omega)
  have hLd := (ld_all (p := p) (R := R) (P := P') h.lg.chn h.lg.small (m := F.length) (Nat.le_refl _) (fun i hi _ => hA F[i] (List.getElem_mem hi)) F.length (Nat.le_refl _)).1
  have hl : F.length = (F.map (fun x => x.1)).length := by simp
  rw [hl] at hLd
  rw [hop, hLd.last, List.map_map]
  have e : F.map (rcP p P' ∘ fun x => x.1) = F := by
    conv => rhs; rw [← List.map_id F]
    refine List.map_congr_left fun x hx => ?_
    show (x.1, scn' (gtP (nm p x.1) P')) = x
    rw [hA x hx, scn_fr (h.lg.small x hx)]
  rw [e]

/-- What Drop does. -/
theorem drP_fs {p : List UInt8} (c : Nat) : ∀ (F : WF) (P : List F3), Fs p F P → Fs p (drP p c F P).1 (drP p c F P).2 ∧ (fstF (drP p c F P).1 ≤ c ∨ fstF (drP p c F P).1 = fstF F) ∧ fstF F ≤ fstF (drP p c F P).1 ∧ flatF (drP p c F P).1 = (flatF F).drop (fstF (drP p c F P).1 - fstF F) ∧ nxtF (drP p c F P).1 = nxtF F
  | [], P, h => ⟨h, Or.inr rfl, Nat.le_refl _, by simp [drP, flatF], rfl⟩
  | [a], P, h => ⟨h, Or.inr rfl, Nat.le_refl _, by simp [drP], rfl⟩
  | a :: b :: r, P, h => by
    unfold drP
    split
    · exact ⟨h, Or.inr rfl, Nat.le_refl _, by simp, rfl⟩
    · rename_i hlt
      obtain ⟨h1, h2, h3, h4, h5⟩ := drP_fs c (b :: r) (wtoP (nm p a.1) P) h.rm_first
      have e1 : b.1 = a.1 + a.2.length := h.lg.chn.1
      have e2 : fstF (b :: r) = b.1 := rfl
      have e3 : fstF (a :: b :: r) = a.1 := rfl
      refine ⟨h1, Or.inl ?_, by omega, ?_, by rw [h5]; simp [nxtF]⟩
      · rcases h2 with h2 | h2
        · exact h2
        · omega
      · rw [h4, flatF_cons a, e2, e3, show ∀ z, z - a.1 = a.2.length + (z - b.1) - (if z < b.1 then (a.2.length + (z - b.1)) - (z - a.1) else 0) from fun z => by split <;> omega]
        rw [if_neg (by omega), Nat.sub_zero, List.drop_append]
        simp

end Go.Proofs.YtpldfakfgngaaaaGreatDoor
