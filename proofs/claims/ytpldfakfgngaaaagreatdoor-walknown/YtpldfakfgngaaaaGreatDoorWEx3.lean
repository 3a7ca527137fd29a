/-
  A log told exactly: Drop, Cut of a log of one file, Open.
-/
import Derived.Test.YtpldfakfgngaaaaGreatDoorWEx2
namespace Go.Proofs.YtpldfakfgngaaaaGreatDoor
open Go.RowKit

theorem Lg.rm_first {p : List UInt8} {a b : Nat × List (List UInt8)} {r : WF} {P : List F3} (h : Lg p (a :: b :: r) P) : Lg p (b :: r) (wtoP (nm p a.1) P) := by
  have hi := (List.pairwise_cons.1 h.inc).1
  have hne : ∀ x ∈ b :: r, nm p x.1 ≠ nm p a.1 := fun x hx e => by
    have := nm_inj p (h.ok (List.mem_cons_of_mem _ hx)).1.2 (h.ok (x := a) (by simp)).1.2 e
    have := hi x hx
    omega
  refine ⟨wtoP_srt h.srt, ?_, fun x hx => ?_, fun x hx => h.small x (List.mem_cons_of_mem _ hx), h.chn.2⟩
  · rw [nos_wto h.srt (h.ok (x := a) (by simp)).1, h.nos, List.map_cons (l := b :: r), List.filter_cons]
    simp only [bne_self_eq_false, Bool.false_eq_true, if_false]
    refine List.filter_eq_self.2 fun x hx => ?_
    obtain ⟨y, hy, rfl⟩ := List.mem_map.1 hx
    have := hi y hy
    have h3 : y.1 ≠ a.1 := by omega
    simpa using h3
  · rw [gtP_wto_other h.srt (hne x hx)]
    exact h.gt x (List.mem_cons_of_mem _ hx)
theorem drP_lg {p : List UInt8} (c : Nat) : ∀ (F : WF) (P : List F3), Lg p F P → Lg p (drP p c F P).1 (drP p c F P).2
  | [], _, h => h
  | [_], _, h => h
  | a :: b :: r, P, h => by
    unfold drP
    split
    · exact h
    · exact drP_lg c (b :: r) (wtoP (nm p a.1) P) h.rm_first
theorem Drop_ex {B : Nat} {w : World} {m : Nat} {k : Wk} {G : WF} {P : List F3} {R N : Nat} (c : Nat) (h : Ex B w m k G P R N) (hx : nxtF G ≤ 1000000) (hR : R ≤ 1099511627776) :
    Calls Tryz.prog 21 #[.pointer (some ⟨k.g, 0, none⟩), .int .u64 (c : Int)] w fun e w' => e = .returned (.int .i64 0) ∧ Ex B w' m k (drP k.p c G P).1 (drP k.p c G P).2 R (N + N) ∧ Below B w w' := by
  have hlg := h.lg
  obtain ⟨L, fe, F, v, a1, rfl, rfl, a4⟩ := h.go
  have hl := lg_len hlg a1.dk
  have el : (Pw F).length = F.length := by simp [Pw]
  refine (Drop_any c w a1 h.pl hlg.wf (fun f hf => hlg.ok (x := pw f) (List.mem_map.2 ⟨f, hf, rfl⟩)) (fun f hf => by
    have := chn_le hlg.chn (pw f) (List.mem_map.2 ⟨f, hf, rfl⟩)
    have e : (pw f).1 + (pw f).2.length = f.num + f.recs.length := rfl
    omega) (by omega)).mono ?_
  rintro e w' ⟨rfl, F1, L1, fe1, v1, D, hD⟩
  have hl2 := drP_lg c (Pw F) (Pu L) hlg
  rw [← hD] at hl2 ⊢
  have q1 := D.room
  exact ⟨rfl, ⟨⟨L1, fe1, F1, v1, ⟨D.lo.dk.mono (by omega), D.lo.wm, D.lo.geD, D.lo.geW, D.lo.vw⟩, rfl, rfl, by omega⟩, hl2, h.pl⟩, D.frame⟩
theorem Lg.cut1 {p : List UInt8} {n : Nat} {q : List (List UInt8)} {P : List F3} (h : Lg p [(n, q)] P) (i s : Nat) : Lg p [(n, q.take i)] (wthP (nm p n, fr (q.take i), s) (wtoP (sp p) P)) := by
  have hs : SrtP (wtoP (sp p) P) := wtoP_srt h.srt
  have hin : n ∈ Go.Proofs.YtpldfakfgngaaaaGreatDoor.nos p (wtoP (sp p) P) := by rw [nos_wto_alien h.srt (sp_alien p), h.nos]; simp
  refine ⟨wthP_srt hs, ?_, fun x hx => ?_, fun x hx => ?_, trivial⟩
  · rw [nos_wth_old hs hin, nos_wto_alien h.srt (sp_alien p), h.nos]; rfl
  · rw [List.mem_singleton.1 hx]
    exact gtP_wth_same hs (nm p n, fr (q.take i), s)
  · rw [List.mem_singleton.1 hx]
    exact fun r hr => h.small (n, q) (by simp) r (List.mem_of_mem_take hr)
theorem Cut1_ex {B : Nat} {w : World} {m : Nat} {k : Wk} {n : Nat} {q : List (List UInt8)} {P : List F3} {R N : Nat} (c : Nat) (h : Ex B w m k [(n, q)] P R N) (hR : R ≤ 1099511627776) (hN : N ≤ 100000) (h1 : n ≤ c) (h2 : c < n + q.length) (hx : n + q.length ≤ 1000000) (ht : totP P + totP P ≤ R) :
    Calls Tryz.prog 18 #[.pointer (some ⟨k.g, 0, none⟩), .int .u64 (c : Int)] w fun e w' => e = .returned (.int .i64 0) ∧ Ex B w' m k [(n, q.take (c - n))] (wthP (nm k.p n, fr (q.take (c - n)), totS (q.take (c - n))) (wtoP (sp k.p) P)) R (N + 4) ∧ Below B w w' := by
  have hlg := h.lg
  have hlg2 := hlg.cut1 (c - n) (totS (q.take (c - n)))
  obtain ⟨L, fe, F, v, a1, a2, rfl, a4⟩ := h.go
  have hto : totP (Pu L) = tot L := totP_Pu L
  have hl := lg_len hlg a1.dk
  have hlg3 := hlg
  rw [← a2] at hlg3
  have en : nxtF (Pw F) = n + q.length := by rw [a2]; rfl
  have ef : fstF (Pw F) = n := by rw [a2]; rfl
  have el : F.length = 1 := by have := congrArg List.length a2; simpa [Pw] using this
  refine (Cut_mid c w a1 h.pl (by omega) hlg3.wf (fun f hf => hlg3.ok (x := pw f) (List.mem_map.2 ⟨f, hf, rfl⟩)) hlg3.chn (by omega) (by omega) (by omega) (fun f hf => hlg3.small (pw f) (List.mem_map.2 ⟨f, hf, rfl⟩)) (fun f hf => by
    have hgt := hlg3.gt (pw f) (List.mem_map.2 ⟨f, hf, rfl⟩)
    have hgt : gtP (nm k.p f.num) (Pu L) = fr f.recs := hgt
    rw [← fr_length, ← hgt]
    exact gtP_le _ _) (by omega) (by omega) hN).mono ?_
  rintro e w' ⟨rfl, A, f, Rr, L', fe', f', v', eF, c1, c2, c3, hlo, epw, hb, eP, eR⟩
  subst eF
  have hA : A = [] := by
    cases A with
    | nil => rfl
    | cons x r => simp at el
  subst hA
  have hRr : Rr = [] := by
    cases Rr with
    | nil => rfl
    | cons x r => simp at el
  subst hRr
  have e1 : (f.num, f.recs) = (n, q) := List.head_eq_of_cons_eq a2
  cases e1
  exact ⟨rfl, ⟨⟨L', fe', [f'], v', hlo, by simp [Pw, epw], eP, by omega⟩, hlg2, h.pl⟩, hb⟩
theorem Open_ex {B : Nat} {w : World} {d m : Nat} {L : List Fl} {fe N R : Nat} {P' : List F3} {G : WF} {p : List UInt8} (most : Int) (h : Db B w d m L fe N) (ho : opP p R (Pu L) = (P', G, 0)) (hlg : Lg p G P') (hR : fe + tot L = R) (hr : R ≤ 1099511627776) (hN : N ≤ 10000) (hp : p.length ≤ 48) (hm : 1 ≤ most) :
    Calls Tryz.prog 9 #[.pointer (some ⟨d, 0, none⟩), .string (bstr p), .int .i64 most] w fun e w' => ∃ k : Wk, e = .returned (.tuple #[.pointer (some ⟨k.g, 0, none⟩), .int .i64 0]) ∧ k.d = d ∧ k.p = p ∧ k.most = most ∧ Ex B w' m k G P' R (2 * N + 10) ∧ Below B w w' := by
  refine (Open_any p most w h.vw h.dk h.ge hp hm (by omega) (by omega) (by omega)).mono ?_
  rintro e w' ⟨L', fe', hS, hP, hR', hb, _, hok⟩
  rw [hR, ho] at hok hP
  obtain ⟨k, F, v, rfl, k1, k2, k3, hL, hG, hW⟩ := hok rfl
  exact ⟨k, rfl, k1, k2, k3, ⟨⟨L', fe', F, v, hL, hG, hP, by omega⟩, by rw [k2]; exact hlg, by rw [k2]; exact hp⟩, hb⟩

end Go.Proofs.YtpldfakfgngaaaaGreatDoor
