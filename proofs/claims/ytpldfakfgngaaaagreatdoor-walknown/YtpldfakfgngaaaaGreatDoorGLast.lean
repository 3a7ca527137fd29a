/-
  A log that is open, and its files on the disk, as lists: what Append, Sync, a crash and Open make of them.
  A log that is appended to, crashes and is opened anew, as lists: what was synced is there, and some beginning of the rest.
-/
import Derived.Test.YtpldfakfgngaaaaGreatDoorGGet
namespace Go.Proofs.YtpldfakfgngaaaaGreatDoor
open Go.RowKit

theorem totP_cons (x : F3) (P : List F3) : totP (x :: P) = x.2.1.length + totP P := by simp [totP]
theorem totP_wth {f : F3} : ∀ {P : List F3}, SrtP P → totP (wthP f P) + (gtP f.1 P).length = totP P + f.2.1.length
  | [], _ => by simp [wthP, totP, gtP, ofP]
  | x :: r, h => by
    obtain ⟨h1, h2⟩ := List.pairwise_cons.1 h
    unfold wthP
    split
    · rename_i hx
      have e : gtP f.1 (x :: r) = gtP f.1 r := by
        unfold gtP ofP
        rw [List.find?_cons_of_neg (by simpa using lt_ne hx)]
      have := totP_wth (f := f) h2
      rw [totP_cons, totP_cons, e]
      omega
    · rename_i hx
      split
      · rename_i he
        have e : gtP f.1 (x :: r) = x.2.1 := by
          unfold gtP ofP
          rw [List.find?_cons_of_pos (by simpa using he)]
          rfl
        rw [totP_cons, totP_cons, e]
        omega
      · rename_i he
        have e : gtP f.1 (x :: r) = [] := gtP_none (lkP_eq_none fun y hy => by
          rcases List.mem_cons.1 hy with rfl | hy
          · exact he
          · intro e2
            have := h1 y hy
            rw [e2] at this
            exact hx this)
        rw [totP_cons, totP_cons, e]
        simp
        omega
theorem gtP_wth_same {P : List F3} (h : SrtP P) (f : F3) : gtP f.1 (wthP f P) = f.2.1 := gtP_some (lkP_wth_same h f)
theorem gtP_wth_other {P : List F3} (h : SrtP P) {f : F3} {s : List UInt8} (hs : s ≠ f.1) : gtP s (wthP f P) = gtP s P := by
  unfold gtP
  rw [ofP_lk, ofP_lk, lkP_wth_other h hs]
theorem gtP_wto_other {P : List F3} (h : SrtP P) {t s : List UInt8} (hs : s ≠ t) : gtP s (wtoP t P) = gtP s P := by
  unfold gtP
  rw [ofP_lk, ofP_lk, lkP_wto_other h hs]
/-- How many first bytes of a file are synced. -/
def syP (s : List UInt8) (P : List F3) : Nat := (ofP s P).2.2
theorem syP_wth_same {P : List F3} (h : SrtP P) (f : F3) : syP f.1 (wthP f P) = f.2.2 := by unfold syP; rw [ofP_lk, lkP_wth_same h]; rfl
theorem syP_wth_other {P : List F3} (h : SrtP P) {f : F3} {s : List UInt8} (hs : s ≠ f.1) : syP s (wthP f P) = syP s P := by
  unfold syP
  rw [ofP_lk, ofP_lk, lkP_wth_other h hs]

structure Lg (p : List UInt8) (F : WF) (P : List F3) : Prop where
  srt : SrtP P
  nos : nos p P = F.map (fun x => x.1)
  gt : ∀ x ∈ F, gtP (nm p x.1) P = fr x.2
  small : ∀ x ∈ F, ∀ r ∈ x.2, r.length ≤ 1048576
  chn : Chn F
theorem Lg.ok {p : List UInt8} {F : WF} {P : List F3} (h : Lg p F P) {x : Nat × List (List UInt8)} (hx : x ∈ F) : okNo x.1 ∧ (lkP (nm p x.1) P).isSome = true := by
  have : x.1 ∈ Go.Proofs.YtpldfakfgngaaaaGreatDoor.nos p P := by rw [h.nos]; exact List.mem_map.2 ⟨x, hx, rfl⟩
  exact ⟨(mem_nos_lk.1 this).2, (mem_nos_lk.1 this).1⟩
theorem Lg.inc {p : List UInt8} {F : WF} {P : List F3} (h : Lg p F P) : F.Pairwise (fun a b => a.1 < b.1) := by
  have := nos_srt p h.srt
  rw [h.nos] at this
  exact List.pairwise_map.1 this
theorem Lg.wf {p : List UInt8} {F : List Wf} {P : List F3} (h : Lg p (Pw F) P) : F.Pairwise (fun a b => a.num < b.num) := (List.pairwise_map (f := pw) (R := fun a b => a.1 < b.1)).1 h.inc
theorem chn_snoc : ∀ {F : WF} {x y : Nat × List (List UInt8)}, Chn (F ++ [x]) → y.1 = x.1 → Chn (F ++ [y])
  | [], _, _, _, _ => trivial
  | [a], x, y, h, e => by
    obtain ⟨h1, _⟩ := h
    exact ⟨e.trans h1, trivial⟩
  | a :: b :: r, x, y, h, e => ⟨h.1, chn_snoc (F := b :: r) h.2 e⟩
theorem chn_more : ∀ {F : WF} {y : Nat × List (List UInt8)}, Chn F → (F ≠ [] → y.1 = nxtF F) → Chn (F ++ [y])
  | [], _, _, _ => trivial
  | [a], y, _, h => ⟨by have := h (by simp); simpa [nxtF] using this, trivial⟩
  | a :: b :: r, y, hc, h => ⟨hc.1, chn_more (F := b :: r) hc.2 (fun _ => by have := h (by simp); rw [this]; simp [nxtF])⟩
theorem fst_snoc {F : WF} {x y : Nat × List (List UInt8)} (e : y.1 = x.1) : fstF (F ++ [y]) = fstF (F ++ [x]) := by
  cases F with
  | nil => exact e
  | cons a r => rfl
/-- A record more in the last file. -/
theorem Lg.app_old {p : List UInt8} {F : WF} {n : Nat} {rs : List (List UInt8)} {P : List F3} (h : Lg p (F ++ [(n, rs)]) P) {r : List UInt8} (hr : r.length ≤ 1048576) (k : Nat) :
    Lg p (F ++ [(n, rs ++ [r])]) (wthP (nm p n, gtP (nm p n) P ++ frm r, k) P) := by
  have hm : (n, rs) ∈ F ++ [(n, rs)] := by simp
  have hin : n ∈ Go.Proofs.YtpldfakfgngaaaaGreatDoor.nos p P := by rw [h.nos]; exact List.mem_map.2 ⟨_, hm, rfl⟩
  refine ⟨wthP_srt h.srt, ?_, fun x hx => ?_, fun x hx => ?_, chn_snoc h.chn rfl⟩
  · rw [nos_wth_old h.srt hin, h.nos]; simp
  · rcases List.mem_append.1 hx with hx | hx
    · have hne : nm p x.1 ≠ nm p n := fun e => by
        have e2 := nm_inj p (h.ok (by simp [hx] : x ∈ F ++ [(n, rs)])).1.2 (h.ok hm).1.2 e
        have := (List.pairwise_append.1 h.inc).2.2 x hx (n, rs) (by simp)
        omega
      rw [gtP_wth_other h.srt hne]
      exact h.gt x (by simp [hx])
    · rw [List.mem_singleton.1 hx]
      have e : gtP (nm p n) (wthP (nm p n, gtP (nm p n) P ++ frm r, k) P) = gtP (nm p n) P ++ frm r := gtP_wth_same h.srt (nm p n, gtP (nm p n) P ++ frm r, k)
      show gtP (nm p n) _ = fr (rs ++ [r])
      rw [e, h.gt _ hm, fr_append]
      simp [fr]
  · rcases List.mem_append.1 hx with hx | hx
    · exact h.small x (by simp [hx])
    · rw [List.mem_singleton.1 hx]
      intro q hq
      rcases List.mem_append.1 hq with hq | hq
      · exact h.small _ hm q hq
      · rw [List.mem_singleton.1 hq]; exact hr
/-- A new file with a record. -/
theorem Lg.app_new {p : List UInt8} {F : WF} {P : List F3} (h : Lg p F P) {r : List UInt8} (hr : r.length ≤ 1048576) (k : Nat) {n : Nat} (hn : F ≠ [] → n = nxtF F) (hok : okNo n) (hlt : ∀ x ∈ F, x.1 < n) :
    Lg p (F ++ [(n, [r])]) (wthP (nm p n, frm r, k) P) := by
  refine ⟨wthP_srt h.srt, ?_, fun x hx => ?_, fun x hx => ?_, chn_more h.chn hn⟩
  · rw [nos_wth_new h.srt hok (fun m hm => by
      rw [h.nos] at hm
      obtain ⟨x, hx, rfl⟩ := List.mem_map.1 hm
      exact hlt x hx), h.nos]
    simp
  · rcases List.mem_append.1 hx with hx | hx
    · have hne : nm p x.1 ≠ nm p n := fun e => by
        have e2 := nm_inj p (h.ok hx).1.2 hok.2 e
        have := hlt x hx
        omega
      rw [gtP_wth_other h.srt hne]
      exact h.gt x hx
    · rw [List.mem_singleton.1 hx]
      show gtP (nm p n) _ = fr [r]
      rw [show gtP (nm p n) (wthP (nm p n, frm r, k) P) = frm r from gtP_wth_same h.srt (nm p n, frm r, k)]
      simp [fr]
  · rcases List.mem_append.1 hx with hx | hx
    · exact h.small x hx
    · rw [List.mem_singleton.1 hx]
      intro q hq
      rw [List.mem_singleton.1 hq]; exact hr
theorem Lg.same {p : List UInt8} {F : WF} {P P' : List F3} (h : Lg p F P) (hs : SrtP P') (hn : Go.Proofs.YtpldfakfgngaaaaGreatDoor.nos p P' = Go.Proofs.YtpldfakfgngaaaaGreatDoor.nos p P) (hg : ∀ x ∈ F, gtP (nm p x.1) P' = gtP (nm p x.1) P) : Lg p F P' :=
  ⟨hs, hn.trans h.nos, fun x hx => (hg x hx).trans (h.gt x hx), h.small, h.chn⟩
theorem gtP_syW {P : List F3} (h : SrtP P) (s t : List UInt8) : gtP s (syW t P) = gtP s P := by
  unfold syW
  by_cases e : s = t
  · subst e
    exact gtP_wth_same h (s, (ofP s P).2.1, (ofP s P).2.1.length)
  · exact gtP_wth_other h (f := (t, (ofP t P).2.1, (ofP t P).2.1.length)) e
theorem Lg.sync {p : List UInt8} {F : WF} {P : List F3} (h : Lg p F P) {x : Nat × List (List UInt8)} (hx : x ∈ F) : Lg p F (syW (nm p x.1) P) :=
  h.same (wthP_srt h.srt) (nos_wth_old h.srt (by rw [h.nos]; exact List.mem_map.2 ⟨x, hx, rfl⟩)) (fun y _ => gtP_syW h.srt _ _)
theorem totP_syW {P : List F3} (h : SrtP P) (s : List UInt8) : totP (syW s P) = totP P := by
  have := totP_wth (f := (s, (ofP s P).2.1, (ofP s P).2.1.length)) h
  have e : (gtP s P).length = (ofP s P).2.1.length := rfl
  have e2 : totP (wthP (s, (ofP s P).2.1, (ofP s P).2.1.length) P) + (gtP s P).length = totP P + (ofP s P).2.1.length := this
  unfold syW
  omega
theorem syP_syW_same {P : List F3} (h : SrtP P) (s : List UInt8) : syP s (syW s P) = (gtP s P).length := syP_wth_same h (s, (ofP s P).2.1, (ofP s P).2.1.length)
theorem syP_syW_other {P : List F3} (h : SrtP P) {s t : List UInt8} (hs : s ≠ t) : syP s (syW t P) = syP s P := syP_wth_other h (f := (t, (ofP t P).2.1, (ofP t P).2.1.length)) hs

/-- Frames are found again. -/
theorem scn_fr {G : List (List UInt8)} (hG : ∀ b ∈ G, b.length ≤ 1048576) : scn' (fr G) = G := by
  have h := scn_frames G [] (fr G).length (by rw [fr_length]; have := tot_len G; omega) hG (opn_short (by decide))
  rw [List.append_nil] at h
  exact h
/-- A row of frames that is cut has some first ones. -/
theorem scn_part {G : List (List UInt8)} (hG : ∀ b ∈ G, b.length ≤ 1048576) (c : Nat) (hc : c ≤ (fr G).length) : ∃ i, i ≤ G.length ∧ scn' ((fr G).take c) = G.take i ∧ totS (G.take i) ≤ c ∧ ∀ j, j ≤ G.length → totS (G.take j) ≤ c → j ≤ i := by
  have mono : ∀ j, totS (G.take j) ≤ totS (G.take (j + 1)) := fun j => by
    rcases Nat.lt_or_ge j G.length with a | a
    · rw [List.take_succ_eq_append_getElem a, tot_snoc]; omega
    · rw [List.take_of_length_le a, List.take_of_length_le (by omega)]; exact Nat.le_refl _
  have mono2 : ∀ d j, totS (G.take j) ≤ totS (G.take (j + d)) := by
    intro d
    induction d with
    | zero => intro j; exact Nat.le_refl _
    | succ d ih => intro j; exact Nat.le_trans (ih j) (mono (j + d))
  have ex : ∀ m, m ≤ G.length → (∃ i, i ≤ m ∧ totS (G.take i) ≤ c ∧ (i < m → c < totS (G.take (i + 1)))) := by
    intro m
    induction m with
    | zero => intro _; exact ⟨0, Nat.le_refl _, by simp [totS], fun h => absurd h (Nat.lt_irrefl _)⟩
    | succ m ih =>
      intro hm
      obtain ⟨i, h1, h2, h3⟩ := ih (by omega)
      by_cases e : i = m
      · subst e
        by_cases hk : totS (G.take (i + 1)) ≤ c
        · exact ⟨i + 1, Nat.le_refl _, hk, fun h => absurd h (Nat.lt_irrefl _)⟩
        · exact ⟨i, by omega, h2, fun _ => by omega⟩
      · exact ⟨i, by omega, h2, fun _ => h3 (by omega)⟩
  obtain ⟨i, h1, h2, h3⟩ := ex G.length (Nat.le_refl _)
  refine ⟨i, h1, ?_, h2, fun j hj hjc => ?_⟩
  · have hl : ((fr G).take c).length = c := by rw [List.length_take]; omega
    have := scn_cut G c i ((fr G).take c).length hG h1 (by
      rw [hl]
      have := tot_len (G.take i)
      rw [List.length_take] at this
      omega) h2 h3
    exact this
  · rcases Nat.lt_or_ge i j with a | a
    · have h4 := h3 (by omega)
      have h5 := mono2 (j - (i + 1)) (i + 1)
      rw [show i + 1 + (j - (i + 1)) = j by omega] at h5
      omega
    · exact a

end Go.Proofs.YtpldfakfgngaaaaGreatDoor

namespace Go.Proofs.YtpldfakfgngaaaaGreatDoor
open Go.RowKit

theorem chn_next {F : WF} (h : Chn F) {j : Nat} (hj : j + 1 < F.length) : F[j + 1].1 = F[j].1 + F[j].2.length := by
  have h1 := chn_at h j (by omega)
  have h2 := chn_at h (j + 1) hj
  rw [List.take_succ_eq_append_getElem (by omega), flatF_append, List.length_append] at h2
  simp [flatF] at h1 h2
  omega
/-- The first files are whole: they are taken. -/
theorem ld_all {p : List UInt8} {R : Nat} {F : WF} {P : List F3} (hc : Chn F) (hsm : ∀ x ∈ F, ∀ r ∈ x.2, r.length ≤ 1048576) {m : Nat} (hm : m ≤ F.length) (hg : ∀ i (h : i < F.length), i < m → gtP (nm p F[i].1) P = fr F[i].2) :
    ∀ i, i ≤ m → Ld p R (F.map (fun x => x.1)) P i ∧ (∀ (hi : i < F.length), nxI p P (F.map (fun x => x.1)) i = none ∨ nxI p P (F.map (fun x => x.1)) i = some F[i].1)
  | 0, _ => ⟨Ld.start _ _ _ _, fun _ => Or.inl rfl⟩
  | i + 1, hi => by
    obtain ⟨h1, h2⟩ := ld_all hc hsm hm hg i (by omega)
    have hl : i < F.length := by omega
    have hlm : i < (F.map (fun x => x.1)).length := by simpa using hl
    have hgi := hg i hl (by omega)
    have hsc : scn' (gtP (nm p F[i].1) P) = F[i].2 := by rw [hgi]; exact scn_fr (hsm _ (List.getElem_mem hl))
    have e : (F.map (fun x => x.1))[i] = F[i].1 := by simp
    refine ⟨h1.step hlm ?_ ?_, fun hi2 => Or.inr ?_⟩
    · rw [e]; exact h2 hl
    · rw [e, hsc, hgi, fr_length]
    · simp only [nxI, List.getElem?_map, List.getElem?_eq_getElem hl, Option.map_some]
      rw [hsc, chn_next hc hi2]
theorem ldP_one {p : List UInt8} {R n : Nat} {nx : Option Nat} {P : List F3} (h : nx = none ∨ nx = some n) (hR : totP (wtoP (sp p) P) + (gtP (nm p n) P).length ≤ R) :
    ldP p R nx [n] P = (if totS (scn' (gtP (nm p n) P)) < (gtP (nm p n) P).length then wthP (nm p n, (gtP (nm p n) P).take (totS (scn' (gtP (nm p n) P))), ((gtP (nm p n) P).take (totS (scn' (gtP (nm p n) P)))).length) (wtoP (sp p) P) else P, [rcP p P n], 0) := by
  by_cases hw : totS (scn' (gtP (nm p n) P)) < (gtP (nm p n) P).length
  · rw [if_pos hw, ldP_cut h hw (by rw [List.length_take]; omega)]
    rfl
  · rw [if_neg hw, ldP_whole h (by have := scn'_tot (gtP (nm p n) P); omega), ldP]
theorem nos_names {p : List UInt8} {P P' : List F3} (h : P'.map (fun f => f.1) = P.map (fun f => f.1)) : nos p P' = nos p P := by unfold nos; rw [h]
/-- What a crash makes of files. -/
structure Crs (P P' : List F3) : Prop where
  names : P'.map (fun f => f.1) = P.map (fun f => f.1)
  at_ : ∀ s f, lkP s P = some f → ∃ c, f.2.2 ≤ c ∧ c ≤ f.2.1.length ∧ lkP s P' = some (s, f.2.1.take c, c)
theorem srt_names {P P' : List F3} (h : P'.map (fun f => f.1) = P.map (fun f => f.1)) (hs : SrtP P) : SrtP P' := by
  have h1 : (P.map (fun f => f.1)).Pairwise (· < ·) := List.pairwise_map.2 hs
  rw [← h] at h1
  exact List.pairwise_map.1 h1
theorem Crs.lk_none {P P' : List F3} (h : Crs P P') {s : List UInt8} (hs : lkP s P = none) : lkP s P' = none := lkP_eq_none fun f hf e => by
  have h1 : f.1 ∈ P.map (fun f => f.1) := by rw [← h.names]; exact List.mem_map.2 ⟨f, hf, rfl⟩
  obtain ⟨g, hg, eg⟩ := List.mem_map.1 h1
  exact lkP_none hs g hg (eg.trans e)
theorem crs_of {ks : List Int} {L L' : List Fl} (h : Cr ks L.length L L') (hs : Srt L') (hsy : ∀ f ∈ L, f.syn ≤ f.bytes.length) : Crs (Pu L) (Pu L') := by
  refine ⟨?_, fun s f hf => ?_⟩
  · have := h.nms
    unfold nms at this
    simp only [Pu, List.map_map]
    exact this
  · have e : lkP s (Pu L) = (lk s L).map pu := find_Pu s L
    rw [e] at hf
    cases e2 : lk s L with
    | none => rw [e2] at hf; cases hf
    | some x =>
      rw [e2] at hf
      cases hf
      obtain ⟨k, v', hk⟩ := h.at hs e2
      obtain ⟨hx, rfl⟩ := lk_some e2
      have h1 := hsy x hx
      have h2 := kn_le k (x.bytes.length - x.syn)
      refine ⟨x.syn + kn k (x.bytes.length - x.syn), Nat.le_add_right _ _, by show _ ≤ x.bytes.length; omega, ?_⟩
      have e3 : lkP x.name (Pu L') = (lk x.name L').map pu := find_Pu x.name L'
      rw [e3, hk]
      rfl

/-- A log that is appended to: its records are rs, of which the first s are synced. -/
structure Ap (p : List UInt8) (F : WF) (P : List F3) (rs : List (List UInt8)) (s : Nat) : Prop where
  lg : Lg p F P
  fst : fstF F = 1
  flat : flatF F = rs
  names : ∀ f ∈ P, ∃ x ∈ F, f.1 = nm p x.1
  full : ∀ x ∈ F.dropLast, syP (nm p x.1) P = (gtP (nm p x.1) P).length
  syn : ∀ A x, F = A ++ [x] → totS (x.2.take (s + 1 - x.1)) ≤ syP (nm p x.1) P
  sle : s ≤ rs.length
theorem Ap.start (p : List UInt8) : Ap p [] [] [] 0 :=
  ⟨⟨List.Pairwise.nil, rfl, fun _ h => by simp at h, fun _ h => by simp at h, trivial⟩, rfl, rfl, fun _ h => by simp at h, fun _ h => by simp at h, fun A x h => by simp at h, Nat.le_refl _⟩
theorem Ap.nxt {p : List UInt8} {F : WF} {P : List F3} {rs : List (List UInt8)} {s : Nat} (h : Ap p F P rs s) : nxtF F = 1 + rs.length := by
  by_cases e : F = []
  · have h2 := h.flat
    subst e
    rw [← h2]
    rfl
  · rw [nxt_eq h.lg.chn e, h.fst, h.flat]
theorem take_more (l : List (List UInt8)) (r : List UInt8) (n : Nat) (hn : n ≤ l.length) : (l ++ [r]).take n = l.take n := List.take_append_of_le_length hn
theorem last_len {F A : WF} {x : Nat × List (List UInt8)} (hc : Chn F) (e : F = A ++ [x]) : x.1 + x.2.length = fstF F + (flatF F).length := by
  have := nxt_eq hc (by rw [e]; simp)
  rw [← this, e]
  simp [nxtF]
theorem Ap.app_old {p : List UInt8} {A : WF} {n : Nat} {q : List (List UInt8)} {P : List F3} {rs : List (List UInt8)} {s : Nat} (h : Ap p (A ++ [(n, q)]) P rs s) {r : List UInt8} (hr : r.length ≤ 1048576) :
    Ap p (A ++ [(n, q ++ [r])]) (wthP (nm p n, gtP (nm p n) P ++ frm r, syP (nm p n) P) P) (rs ++ [r]) s := by
  have hne : ∀ x ∈ A, nm p x.1 ≠ nm p n := fun x hx e => by
    have e2 := nm_inj p (h.lg.ok (by simp [hx] : x ∈ A ++ [(n, q)])).1.2 (h.lg.ok (by simp : (n, q) ∈ A ++ [(n, q)])).1.2 e
    have := (List.pairwise_append.1 h.lg.inc).2.2 x hx (n, q) (by simp)
    omega
  have hnl := last_len h.lg.chn rfl
  rw [h.fst, h.flat] at hnl
  refine ⟨h.lg.app_old hr _, by rw [← h.fst]; exact fst_snoc rfl, ?_, fun f hf => ?_, fun x hx => ?_, fun B x e => ?_, by have := h.sle; simp; omega⟩
  · have := h.flat
    rw [flatF_append] at this ⊢
    rw [← this]
    simp [flatF]
  · rcases (wthP_mem h.lg.srt).1 hf with rfl | ⟨hf, _⟩
    · exact ⟨(n, q ++ [r]), by simp, rfl⟩
    · obtain ⟨x, hx, e⟩ := h.names f hf
      rcases List.mem_append.1 hx with hx | hx
      · exact ⟨x, by simp [hx], e⟩
      · rw [List.mem_singleton.1 hx] at e
        exact ⟨(n, q ++ [r]), by simp, e⟩
  · rw [List.dropLast_concat] at hx
    rw [syP_wth_other h.lg.srt (hne x hx), gtP_wth_other h.lg.srt (hne x hx)]
    exact h.full x (by rw [List.dropLast_concat]; exact hx)
  · obtain ⟨rfl, e2⟩ := List.append_inj' e rfl
    cases e2
    show totS ((q ++ [r]).take (s + 1 - n)) ≤ syP (nm p n) _
    rw [show syP (nm p n) (wthP (nm p n, gtP (nm p n) P ++ frm r, syP (nm p n) P) P) = syP (nm p n) P from syP_wth_same h.lg.srt (nm p n, gtP (nm p n) P ++ frm r, syP (nm p n) P), take_more q r _ (by have := h.sle; simp at hnl; omega)]
    exact h.syn A (n, q) rfl
/-- The last file is synced, if there is one. -/
def syG (p : List UInt8) (F : WF) (P : List F3) : List F3 := match F.getLast? with | none => P | some x => syW (nm p x.1) P
theorem syF_pw (p : List UInt8) (F : List Wf) (P : List F3) : syF p F P = syG p (Pw F) P := by
  rcases snoc_cases F with rfl | ⟨A, f, rfl⟩
  · rfl
  · simp [syF, syG, Pw, pw]
theorem Ap.sync {p : List UInt8} {F : WF} {P : List F3} {rs : List (List UInt8)} {s : Nat} (h : Ap p F P rs s) : Ap p F (syG p F P) rs rs.length := by
  rcases snoc_cases F with rfl | ⟨A, x, rfl⟩
  · have h2 := h.flat
    refine ⟨h.lg, h.fst, h.flat, h.names, h.full, fun A x e => by simp at e, Nat.le_refl _⟩
  · have eg : syG p (A ++ [x]) P = syW (nm p x.1) P := by simp [syG]
    have hm : x ∈ A ++ [x] := by simp
    have hsx : (lkP (nm p x.1) P).isSome = true := (h.lg.ok hm).2
    have hne : ∀ y ∈ A, nm p y.1 ≠ nm p x.1 := fun y hy e => by
      have e2 := nm_inj p (h.lg.ok (by simp [hy] : y ∈ A ++ [x])).1.2 (h.lg.ok hm).1.2 e
      have := (List.pairwise_append.1 h.lg.inc).2.2 y hy x (by simp)
      omega
    rw [eg]
    refine ⟨h.lg.sync hm, h.fst, h.flat, fun f hf => ?_, fun y hy => ?_, fun B y e => ?_, Nat.le_refl _⟩
    · rcases (wthP_mem h.lg.srt).1 hf with rfl | ⟨hf, _⟩
      · exact ⟨x, hm, rfl⟩
      · exact h.names f hf
    · rw [List.dropLast_concat] at hy
      rw [syP_syW_other h.lg.srt (hne y hy), gtP_syW h.lg.srt]
      exact h.full y (by rw [List.dropLast_concat]; exact hy)
    · obtain ⟨rfl, e2⟩ := List.append_inj' e rfl
      cases e2
      rw [syP_syW_same h.lg.srt, h.lg.gt x hm, fr_length]
      have mono : ∀ (G : List (List UInt8)) j, totS (G.take j) ≤ totS G := fun G j => by
        conv => rhs; rw [← List.take_append_drop j G]
        rw [tot_append]
        omega
      exact mono _ _
theorem Ap.app_new {p : List UInt8} {F : WF} {P : List F3} {rs : List (List UInt8)} {s : Nat} (h : Ap p F P rs s) {r : List UInt8} (hr : r.length ≤ 1048576) (hl : ∀ A x, F = A ++ [x] → x.2 ≠ []) (hok : nxtF F ≤ 1000000000000000) :
    Ap p (F ++ [(nxtF F, [r])]) (wthP (nm p (nxtF F), gtP (nm p (nxtF F)) (syG p F P) ++ frm r, syP (nm p (nxtF F)) (syG p F P)) (syG p F P)) (rs ++ [r]) s := by
  have hS := h.sync
  have hnx := h.nxt
  have hlt : ∀ x ∈ F, x.1 < nxtF F := fun x hx => by
    rcases snoc_cases F with rfl | ⟨A, y, rfl⟩
    · simp at hx
    · have e : nxtF (A ++ [y]) = y.1 + y.2.length := by simp [nxtF]
      have hy : 0 < y.2.length := List.length_pos_iff.2 (hl A y rfl)
      rcases List.mem_append.1 hx with hx | hx
      · have := (List.pairwise_append.1 h.lg.inc).2.2 x hx y (by simp)
        omega
      · rw [List.mem_singleton.1 hx]
        omega
  have hne : ∀ x ∈ F, nm p x.1 ≠ nm p (nxtF F) := fun x hx e => by
    have e2 := nm_inj p (h.lg.ok hx).1.2 hok e
    have := hlt x hx
    omega
  have hno : lkP (nm p (nxtF F)) (syG p F P) = none := lkP_eq_none fun f hf e => by
    obtain ⟨x, hx, e2⟩ := hS.names f hf
    exact hne x hx (e2.symm.trans e)
  have hg0 : gtP (nm p (nxtF F)) (syG p F P) = [] := gtP_none hno
  have hs0 : syP (nm p (nxtF F)) (syG p F P) = 0 := by unfold syP; rw [ofP_lk, hno]; rfl
  rw [hg0, hs0, List.nil_append]
  refine ⟨hS.lg.app_new hr 0 (fun _ => rfl) ⟨by omega, hok⟩ hlt, ?_, ?_, fun f hf => ?_, fun x hx => ?_, fun B x e => ?_, by have := h.sle; simp; omega⟩
  · cases F with
    | nil => rfl
    | cons a r => exact h.fst
  · rw [flatF_append, h.flat]
    simp [flatF]
  · rcases (wthP_mem hS.lg.srt).1 hf with rfl | ⟨hf, _⟩
    · exact ⟨(nxtF F, [r]), by simp, rfl⟩
    · obtain ⟨x, hx, e⟩ := hS.names f hf
      exact ⟨x, by simp [hx], e⟩
  · rw [List.dropLast_concat] at hx
    rw [syP_wth_other hS.lg.srt (hne x hx), gtP_wth_other hS.lg.srt (hne x hx)]
    rcases snoc_cases F with rfl | ⟨A, y, rfl⟩
    · simp at hx
    · rcases List.mem_append.1 hx with hx | hx
      · exact hS.full x (by rw [List.dropLast_concat]; exact hx)
      · rw [List.mem_singleton.1 hx]
        have eg : syG p (A ++ [y]) P = syW (nm p y.1) P := by simp [syG]
        rw [eg, syP_syW_same h.lg.srt, gtP_syW h.lg.srt]
  · obtain ⟨rfl, e2⟩ := List.append_inj' e rfl
    cases e2
    have h1 := h.sle
    rw [show s + 1 - nxtF F = 0 by omega]
    exact Nat.zero_le _

theorem fr_take {q : List (List UInt8)} {i c : Nat} (hc : totS (q.take i) ≤ c) : ((fr q).take c).take (totS (q.take i)) = fr (q.take i) := by
  rw [List.take_take, Nat.min_eq_left hc]
  have e : fr q = fr (q.take i) ++ fr (q.drop i) := by rw [← fr_append, List.take_append_drop]
  rw [e, ← fr_length, List.take_left]
theorem Ap.open {p : List UInt8} {F : WF} {P P' : List F3} {rs : List (List UInt8)} {s R : Nat} (h : Ap p F P rs s) (hc : Crs P P') (hR : totP P' + totP P' ≤ R) :
    ∃ (F' : WF) (P'' : List F3) (j : Nat), opP p R P' = (P'', F', 0) ∧ s ≤ j ∧ j ≤ rs.length ∧ Ap p F' P'' (rs.take j) 0 ∧ totP P'' ≤ totP P' := by
  have hs' := srt_names hc.names h.lg.srt
  have hsp : lkP (sp p) P' = none := hc.lk_none (lkP_eq_none fun f hf e => by
    obtain ⟨x, hx, e2⟩ := h.names f hf
    exact sp_alien p x.1 (h.lg.ok hx).1 (e.symm.trans e2))
  have hno : nos p P' = F.map (fun x => x.1) := (nos_names hc.names).trans h.lg.nos
  have hop : opP p R P' = ldP p R none (F.map (fun x => x.1)) P' := by unfold opP; rw [wtoP_none hsp, hno]
  have hnames' : ∀ f ∈ P', ∃ x ∈ F, f.1 = nm p x.1 := fun f hf => by
    have h1 : f.1 ∈ P.map (fun f => f.1) := by rw [← hc.names]; exact List.mem_map.2 ⟨f, hf, rfl⟩
    obtain ⟨g, hg, eg⟩ := List.mem_map.1 h1
    obtain ⟨x, hx, e⟩ := h.names g hg
    exact ⟨x, hx, eg.symm.trans e⟩
  rcases snoc_cases F with rfl | ⟨A, ⟨n, q⟩, rfl⟩
  · have hP' : P' = [] := by
      cases P' with
      | nil => rfl
      | cons f r => obtain ⟨x, hx, _⟩ := hnames' f (by simp); simp at hx
    subst hP'
    have hrs : rs = [] := by rw [← h.flat]; rfl
    subst hrs
    exact ⟨[], [], 0, by rw [hop]; rfl, by have := h.sle; simpa using this, Nat.le_refl _, Ap.start p, Nat.le_refl _⟩
  · have hm : (n, q) ∈ A ++ [(n, q)] := by simp
    have hat : ∀ x ∈ A ++ [(n, q)], ∃ c, syP (nm p x.1) P ≤ c ∧ c ≤ (fr x.2).length ∧ gtP (nm p x.1) P' = (fr x.2).take c ∧ syP (nm p x.1) P' = c := fun x hx => by
      obtain ⟨_, hsm⟩ := h.lg.ok hx
      obtain ⟨f, hf⟩ := Option.isSome_iff_exists.1 hsm
      obtain ⟨c, c1, c2, c3⟩ := hc.at_ _ f hf
      have hgt := h.lg.gt x hx
      rw [gtP_some hf] at hgt
      refine ⟨c, ?_, by rw [← hgt]; exact c2, by rw [gtP_some c3, hgt], by unfold syP; rw [ofP_lk, c3]; rfl⟩
      unfold syP
      rw [ofP_lk, hf]
      exact c1
    have hA : ∀ x ∈ A, gtP (nm p x.1) P' = fr x.2 ∧ syP (nm p x.1) P' = (fr x.2).length := fun x hx => by
      obtain ⟨c, c1, c2, c3, c4⟩ := hat x (by simp [hx])
      have hfu := h.full x (by rw [List.dropLast_concat]; exact hx)
      rw [h.lg.gt x (by simp [hx])] at hfu
      have hcl : c = (fr x.2).length := by omega
      rw [c3, c4, hcl, List.take_length]
      exact ⟨rfl, rfl⟩
    have hneA : ∀ x ∈ A, nm p x.1 ≠ nm p n := fun x hx e => by
      have e2 := nm_inj p (h.lg.ok (by simp [hx] : x ∈ A ++ [(n, q)])).1.2 (h.lg.ok hm).1.2 e
      have := (List.pairwise_append.1 h.lg.inc).2.2 x hx (n, q) (by simp)
      omega
    obtain ⟨c, c1, c2, c3, c4⟩ := hat (n, q) hm
    have hq : ∀ r ∈ q, r.length ≤ 1048576 := h.lg.small (n, q) hm
    obtain ⟨i, i1, i2, i3, i4⟩ := scn_part hq c c2
    have hsc : scn' (gtP (nm p n) P') = q.take i := by
      have : gtP (nm p n) P' = (fr q).take c := c3
      rw [this, i2]
    obtain ⟨hLd, hnx⟩ := ld_all (p := p) (R := R) (P := P') h.lg.chn h.lg.small (m := A.length) (by simp) (fun i hi hia => by
      rw [List.getElem_append_left hia]
      exact (hA A[i] (List.getElem_mem hia)).1) A.length (Nat.le_refl _)
    have hnx := hnx (by simp)
    rw [List.getElem_concat_length (by rfl)] at hnx
    have hnx : nxI p P' ((A ++ [(n, q)]).map (fun x => x.1)) A.length = none ∨ nxI p P' ((A ++ [(n, q)]).map (fun x => x.1)) A.length = some n := hnx
    have hgl : (gtP (nm p n) P').length ≤ totP P' := by
      have := totP_wth (f := (nm p n, [], 0)) hs'
      simp at this
      omega
    have hone := ldP_one (R := R) hnx (by rw [wtoP_none hsp]; omega)
    have hdr : ((A ++ [(n, q)]).map (fun x => x.1)).drop A.length = [n] := by simp
    have htk : (((A ++ [(n, q)]).map (fun x => x.1)).take A.length).map (rcP p P') = A := by
      have e1 : ((A ++ [(n, q)]).map (fun x => x.1)).take A.length = A.map (fun x => x.1) := by simp
      rw [e1, List.map_map]
      conv => rhs; rw [← List.map_id A]
      refine List.map_congr_left fun x hx => ?_
      show (x.1, scn' (gtP (nm p x.1) P')) = x
      rw [(hA x hx).1, scn_fr (h.lg.small x (by simp [hx]))]
    have heq := hLd.eq
    rw [hdr, hone, htk] at heq
    have hrc : rcP p P' n = (n, q.take i) := by unfold rcP; rw [hsc]
    rw [hrc, wtoP_none hsp, hsc] at heq
    have hlen : n + q.length = 1 + rs.length := by
      have := last_len h.lg.chn rfl
      rw [h.fst, h.flat] at this
      exact this
    have hfa : flatF A ++ q = rs := by
      have := h.flat
      rw [flatF_append] at this
      simpa [flatF] using this
    have hfl := congrArg List.length hfa
    rw [List.length_append] at hfl
    have hsj : s ≤ (flatF A).length + i := by
      have h1 := h.syn A (n, q) rfl
      have h2 := h.sle
      have h3 := i4 (s + 1 - n) (by omega) (Nat.le_trans h1 c1)
      omega
    have hrt : rs.take ((flatF A).length + i) = flatF A ++ q.take i := by
      rw [← hfa, List.take_append, List.take_of_length_le (by omega)]
      simp
    have mk : ∀ P'' : List F3, SrtP P'' → nos p P'' = nos p P' → (∀ f ∈ P'', ∃ x ∈ A ++ [(n, q)], f.1 = nm p x.1) → (∀ x ∈ A, gtP (nm p x.1) P'' = gtP (nm p x.1) P' ∧ syP (nm p x.1) P'' = syP (nm p x.1) P') → gtP (nm p n) P'' = fr (q.take i) → Ap p (A ++ [(n, q.take i)]) P'' (rs.take ((flatF A).length + i)) 0 := by
      intro P'' s1 s2 s3 s4 s5
      refine ⟨⟨s1, by rw [s2, hno]; simp, fun x hx => ?_, fun x hx => ?_, chn_snoc h.lg.chn rfl⟩, by rw [← h.fst]; exact fst_snoc rfl, ?_, fun f hf => ?_, fun x hx => ?_, fun B x e => ?_, Nat.zero_le _⟩
      · rcases List.mem_append.1 hx with hx | hx
        · rw [(s4 x hx).1, (hA x hx).1]
        · rw [List.mem_singleton.1 hx]; exact s5
      · rcases List.mem_append.1 hx with hx | hx
        · exact h.lg.small x (by simp [hx])
        · rw [List.mem_singleton.1 hx]
          exact fun r hr => hq r (List.mem_of_mem_take hr)
      · rw [flatF_append, hrt]
        simp [flatF]
      · obtain ⟨x, hx, e⟩ := s3 f hf
        rcases List.mem_append.1 hx with hx | hx
        · exact ⟨x, by simp [hx], e⟩
        · rw [List.mem_singleton.1 hx] at e
          exact ⟨(n, q.take i), by simp, e⟩
      · rw [List.dropLast_concat] at hx
        rw [(s4 x hx).1, (s4 x hx).2, (hA x hx).1, (hA x hx).2]
      · obtain ⟨rfl, e2⟩ := List.append_inj' e rfl
        cases e2
        have : 1 ≤ n := (h.lg.ok hm).1.1
        rw [show 0 + 1 - n = 0 by omega]
        exact Nat.zero_le _
    by_cases hw : totS (q.take i) < (gtP (nm p n) P').length
    · rw [if_pos hw] at heq
      have hP2 : SrtP (wthP (nm p n, (gtP (nm p n) P').take (totS (q.take i)), ((gtP (nm p n) P').take (totS (q.take i))).length) P') := wthP_srt hs'
      have hin : n ∈ nos p P' := by rw [hno]; simp
      refine ⟨_, _, (flatF A).length + i, by rw [hop, heq], hsj, by omega, mk _ hP2 (nos_wth_old hs' hin) (fun f hf => ?_) (fun x hx => ⟨gtP_wth_other hs' (hneA x hx), syP_wth_other hs' (hneA x hx)⟩) ?_, ?_⟩
      · rcases (wthP_mem hs').1 hf with rfl | ⟨hf, _⟩
        · exact ⟨(n, q), hm, rfl⟩
        · exact hnames' f hf
      · rw [show gtP (nm p n) (wthP (nm p n, (gtP (nm p n) P').take (totS (q.take i)), ((gtP (nm p n) P').take (totS (q.take i))).length) P') = (gtP (nm p n) P').take (totS (q.take i)) from gtP_wth_same hs' (nm p n, (gtP (nm p n) P').take (totS (q.take i)), ((gtP (nm p n) P').take (totS (q.take i))).length)]
        have : gtP (nm p n) P' = (fr q).take c := c3
        rw [this]
        exact fr_take i3
      · have := totP_wth (f := (nm p n, (gtP (nm p n) P').take (totS (q.take i)), ((gtP (nm p n) P').take (totS (q.take i))).length)) hs'
        have e2 : totP (wthP (nm p n, (gtP (nm p n) P').take (totS (q.take i)), ((gtP (nm p n) P').take (totS (q.take i))).length) P') + (gtP (nm p n) P').length = totP P' + ((gtP (nm p n) P').take (totS (q.take i))).length := this
        have e5 : ((gtP (nm p n) P').take (totS (q.take i))).length ≤ (gtP (nm p n) P').length := by rw [List.length_take]; exact Nat.min_le_right _ _
        generalize totP (wthP (nm p n, (gtP (nm p n) P').take (totS (q.take i)), ((gtP (nm p n) P').take (totS (q.take i))).length) P') = a at *
        omega
    · rw [if_neg hw] at heq
      refine ⟨_, _, (flatF A).length + i, by rw [hop, heq], hsj, by omega, mk _ hs' rfl hnames' (fun x hx => ⟨rfl, rfl⟩) ?_, Nat.le_refl _⟩
      have e3 : gtP (nm p n) P' = (fr q).take c := c3
      have e4 : ((fr q).take c).length = c := by rw [List.length_take]; exact Nat.min_eq_left c2
      rw [e3, e4] at hw
      rw [e3]
      exact (List.take_of_length_le (l := (fr q).take c) (by rw [e4]; omega)).symm.trans (fr_take i3)

end Go.Proofs.YtpldfakfgngaaaaGreatDoor

