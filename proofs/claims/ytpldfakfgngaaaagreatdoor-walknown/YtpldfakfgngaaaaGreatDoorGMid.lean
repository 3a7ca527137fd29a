/-
  What a log's calls do, as a law sees it: records in a row, of which some first ones are synced.
  A disk's loss of power, and a log opened anew; a log on a new disk.
  The laws' own trial: two records, of which one is synced.
-/
import Derived.Test.YtpldfakfgngaaaaGreatDoorGLast
namespace Go.Proofs.YtpldfakfgngaaaaGreatDoor
open Go.RowKit

/-- A log with its records: so many first ones are synced. -/
structure Sl (B : Nat) (w : World) (m : Nat) (L : List Fl) (fr N : Nat) (k : Wk) (F : List Wf) (v : Value) (R : Nat) (rs : List (List UInt8)) (s : Nat) : Prop where
  lo : Lo B w m L fr N k F v
  ap : Ap k.p (Pw F) (Pu L) rs s
  room : fr + tot L = R
  pl : k.p.length ≤ 48
  most : 1 ≤ k.most
theorem Sl.below {B : Nat} {w w' : World} {m : Nat} {L : List Fl} {fr N : Nat} {k : Wk} {F : List Wf} {v : Value} {R : Nat} {rs : List (List UInt8)} {s : Nat} (h : Sl B w m L fr N k F v R rs s) (hb : Below w.heap.size w w') : Sl B w' m L fr N k F v R rs s :=
  ⟨h.lo.below hb, h.ap, h.room, h.pl, h.most⟩
theorem Sl.len {B : Nat} {w : World} {m : Nat} {L : List Fl} {fr N : Nat} {k : Wk} {F : List Wf} {v : Value} {R : Nat} {rs : List (List UInt8)} {s : Nat} (h : Sl B w m L fr N k F v R rs s) : F.length ≤ N := by
  have h1 : (nos k.p (Pu L)).length ≤ ((Pu L).map (fun f => f.1)).length := Nat.le_trans (List.length_filterMap_le _ _) (List.length_filter_le _ _)
  have h2 : ((Pu L).map (fun f => f.1)).length = L.length := by simp [Pu]
  have h3 := h.lo.dk.len
  rw [h.ap.lg.nos] at h1
  simp [Pw] at h1 h2
  omega
/-- What a step leaves. -/
def Left (B : Nat) (w w' : World) (m : Nat) (k : Wk) (N R T : Nat) (rs : List (List UInt8)) (s : Nat) : Prop := ∃ L fr F v, Sl B w' m L fr N k F v R rs s ∧ Below B w w' ∧ tot L ≤ T

theorem wApp_ap {B : Nat} {w : World} {m : Nat} {L : List Fl} {fr N : Nat} {k : Wk} {F : List Wf} {v : Value} {R : Nat} {rs : List (List UInt8)} {s : Nat} (r : List UInt8) (h : Sl B w m L fr N k F v R rs s) (hr : r.length ≤ 1048576) (hR : R ≤ 1099511627776) (hroom : tot L + (r.length + 8) ≤ R) (hN : N ≤ 100000) (hrs : rs.length ≤ 1000000) :
    Calls Tryz.prog 13 #[.pointer (some ⟨k.g, 0, none⟩), .string (bstr r)] w fun e w' => e = .returned (.int .i64 0) ∧ Left B w w' m k (N + 2) R (tot L + (r.length + 8)) (rs ++ [r]) s := by
  have hl := h.len
  have hroomR := h.room
  have hfl := frm_length r
  have hsl := h.ap.lg.srt
  have hex : ∀ f ∈ F, (lkP (nm k.p f.num) (Pu L)).isSome = true := fun f hf => (h.ap.lg.ok (List.mem_map.2 ⟨f, hf, rfl⟩)).2
  have hto : totP (Pu L) = tot L := totP_Pu L
  have new : (F = [] ∨ ∃ F0 f, F = F0 ++ [f] ∧ k.most ≤ (totS f.recs : Int)) → Calls Tryz.prog 13 #[.pointer (some ⟨k.g, 0, none⟩), .string (bstr r)] w fun e w' => e = .returned (.int .i64 0) ∧ Left B w w' m k (N + 2) R (tot L + (r.length + 8)) (rs ++ [r]) s := by
    intro hs
    have hst : totP (syF k.p F (Pu L)) = tot L := by
      rw [syF_pw]
      unfold syG
      split
      · exact hto
      · rw [totP_syW hsl]; exact hto
    have hnx := h.ap.nxt
    refine (wApp_new r w h.lo (by omega) h.pl hs hex (by omega) hr (by omega) (by rw [hst]; omega) (by omega) (by rw [hst]; omega)).mono ?_
    rintro e w' ⟨rfl, L', fr', f, v', a1, a2, a3, a4, a5⟩
    have hap := h.ap.app_new hr (fun A x e => by
      rcases hs with rfl | ⟨F0, f0, rfl, hm⟩
      · simp [Pw] at e
      · have e2 : Pw (F0 ++ [f0]) = Pw F0 ++ [pw f0] := by simp [Pw]
        rw [e2] at e
        obtain ⟨_, e3⟩ := List.append_inj' e rfl
        cases e3
        intro e4
        have e5 : totS f0.recs = 0 := by
          have : f0.recs = [] := e4
          rw [this]; rfl
        have := h.most
        omega) (by omega)
    rw [apA_ok (nm_ok h.pl _) (by rw [hst]; omega)] at a4
    have e3 : Pw (F ++ [f]) = Pw F ++ [(nxtF (Pw F), [r])] := by
      show (F ++ [f]).map pw = _
      rw [List.map_append, List.map_singleton, a3]
      rfl
    have e4 : Pu L' = wthP (nm k.p (nxtF (Pw F)), gtP (nm k.p (nxtF (Pw F))) (syG k.p (Pw F) (Pu L)) ++ frm r, syP (nm k.p (nxtF (Pw F))) (syG k.p (Pw F) (Pu L))) (syG k.p (Pw F) (Pu L)) := by
      rw [a4, syF_pw]; rfl
    refine ⟨rfl, L', fr', F ++ [f], v', ⟨a1, by rw [e3, e4]; exact hap, by omega, h.pl, h.most⟩, h.lo.frame a2, ?_⟩
    rw [← totP_Pu L', e4]
    have hw := totP_wth (f := (nm k.p (nxtF (Pw F)), gtP (nm k.p (nxtF (Pw F))) (syG k.p (Pw F) (Pu L)) ++ frm r, syP (nm k.p (nxtF (Pw F))) (syG k.p (Pw F) (Pu L)))) h.ap.sync.lg.srt
    rw [← syF_pw] at hw ⊢
    rw [hst] at hw
    have e5 : (gtP (nm k.p (nxtF (Pw F))) (syF k.p F (Pu L)) ++ frm r).length = (gtP (nm k.p (nxtF (Pw F))) (syF k.p F (Pu L))).length + (r.length + 8) := by rw [List.length_append, hfl]
    simp only [e5] at hw
    omega
  rcases snoc_cases F with e | ⟨A, f, e⟩
  · exact new (Or.inl e)
  · by_cases hs : (totS f.recs : Int) < k.most
    · subst e
      have e2 : Pw (A ++ [f]) = Pw A ++ [(f.num, f.recs)] := by simp [Pw, pw]
      have hap : Ap k.p (Pw A ++ [(f.num, f.recs)]) (Pu L) rs s := by rw [← e2]; exact h.ap
      have hgt := hap.lg.gt (f.num, f.recs) (by simp)
      have hgl : totS f.recs ≤ tot L := by
        rw [← fr_length, ← hgt]
        exact gtP_le _ _
      have htl := tot_len f.recs
      refine (wApp_old r w h.lo (by simp at hl; omega) h.pl hs hr (by omega) (by omega) (by omega) (by omega) (by omega) (by rw [hto]; omega)).mono ?_
      rintro e w' ⟨rfl, L', fr', f', a1, a2, a3, a4, a5⟩
      have hap2 := hap.app_old hr
      rw [apA_ok (nm_ok h.pl _) (by rw [hto]; omega)] at a4
      have e3 : Pw (A ++ [f']) = Pw A ++ [(f.num, f.recs ++ [r])] := by
        show (A ++ [f']).map pw = _
        rw [List.map_append, List.map_singleton, a3]
        rfl
      have e4 : Pu L' = wthP (nm k.p f.num, gtP (nm k.p f.num) (Pu L) ++ frm r, syP (nm k.p f.num) (Pu L)) (Pu L) := a4
      refine ⟨rfl, L', fr', A ++ [f'], v, ⟨⟨a1.dk.mono (by omega), a1.wm, a1.geD, a1.geW, a1.vw⟩, by rw [e3, e4]; exact hap2, by omega, h.pl, h.most⟩, h.lo.frame a2, ?_⟩
      rw [← totP_Pu L', e4]
      have hw := totP_wth (f := (nm k.p f.num, gtP (nm k.p f.num) (Pu L) ++ frm r, syP (nm k.p f.num) (Pu L))) hsl
      rw [hto] at hw
      have e5 : (gtP (nm k.p f.num) (Pu L) ++ frm r).length = (gtP (nm k.p f.num) (Pu L)).length + (r.length + 8) := by rw [List.length_append, hfl]
      simp only [e5] at hw
      omega
    · exact new (Or.inr ⟨A, f, e, by omega⟩)
theorem wSync_ap {B : Nat} {w : World} {m : Nat} {L : List Fl} {fr N : Nat} {k : Wk} {F : List Wf} {v : Value} {R : Nat} {rs : List (List UInt8)} {s : Nat} (h : Sl B w m L fr N k F v R rs s) (hN : N ≤ 100000) :
    Calls Tryz.prog 17 #[.pointer (some ⟨k.g, 0, none⟩)] w fun e w' => e = .returned (.int .i64 0) ∧ Left B w w' m k (N + 1) R (tot L) rs rs.length := by
  have hl := h.len
  have hroomR := h.room
  refine (wSync_all w h.lo (by omega) h.pl (fun f hf => (h.ap.lg.ok (List.mem_map.2 ⟨f, hf, rfl⟩)).2)).mono ?_
  rintro e w' ⟨rfl, L', fr', a1, a2, a3, a4⟩
  rw [syF_pw] at a3
  refine ⟨rfl, L', fr', F, v, ⟨a1, by rw [a3]; exact h.ap.sync, by omega, h.pl, h.most⟩, h.lo.frame a2, ?_⟩
  rw [← totP_Pu L', a3]
  unfold syG
  split
  · rw [totP_Pu]; exact Nat.le_refl _
  · rw [totP_syW h.ap.lg.srt, totP_Pu]; exact Nat.le_refl _
theorem First_ap {B : Nat} {w : World} {m : Nat} {L : List Fl} {fr N : Nat} {k : Wk} {F : List Wf} {v : Value} {R : Nat} {rs : List (List UInt8)} {s : Nat} (h : Sl B w m L fr N k F v R rs s) :
    Calls Tryz.prog 26 #[.pointer (some ⟨k.g, 0, none⟩)] w fun e w' => e = .returned (.int .u64 1) ∧ w' = w := by
  have := First_any w h.lo.wm
  rw [h.ap.fst] at this
  exact this
theorem Next_ap {B : Nat} {w : World} {m : Nat} {L : List Fl} {fr N : Nat} {k : Wk} {F : List Wf} {v : Value} {R : Nat} {rs : List (List UInt8)} {s : Nat} (h : Sl B w m L fr N k F v R rs s) (hN : N ≤ 100000) (hrs : rs.length ≤ 1000000) :
    Calls Tryz.prog 28 #[.pointer (some ⟨k.g, 0, none⟩)] w fun e w' => e = .returned (.int .u64 ((1 + rs.length : Nat) : Int)) ∧ Below w.heap.size w w' := by
  have hl := h.len
  have hn := h.ap.nxt
  have := Next_any w h.lo.wm (by omega) (by omega)
  rw [hn] at this
  exact this
theorem Get_ap {B : Nat} {w : World} {m : Nat} {L : List Fl} {fr N : Nat} {k : Wk} {F : List Wf} {v : Value} {R : Nat} {rs : List (List UInt8)} {s : Nat} (n : Nat) (h : Sl B w m L fr N k F v R rs s) (hN : N ≤ 100000) (hrs : rs.length ≤ 1000000) (h1 : 1 ≤ n) (h2 : n ≤ rs.length) :
    Calls Tryz.prog 22 #[.pointer (some ⟨k.g, 0, none⟩), .int .u64 (n : Int)] w fun e w' => e = .returned (.tuple #[.string (bstr (rs[n - 1]'(by omega))), .int .i64 0]) ∧ Below w.heap.size w w' := by
  have hl := h.len
  have hn := h.ap.nxt
  have h0 : 0 < F.length := by
    rcases Nat.eq_zero_or_pos F.length with e | e
    · have := List.eq_nil_of_length_eq_zero e
      subst this
      have := h.ap.flat
      rw [← this] at h2
      simp [Pw, flatF] at h2
      omega
    · exact e
  refine (Get_ok n w h.lo.wm h.ap.lg.wf h.ap.lg.chn (by omega) (by rw [h.ap.fst]; exact h1) (by omega) (by omega) h0 (fun f hf => h.ap.lg.small (pw f) (List.mem_map.2 ⟨f, hf, rfl⟩))).mono ?_
  rintro e w' ⟨⟨b, hb, rfl⟩, hbe⟩
  rw [h.ap.flat, h.ap.fst, List.getElem?_eq_getElem (by omega)] at hb
  cases hb
  exact ⟨rfl, hbe⟩

end Go.Proofs.YtpldfakfgngaaaaGreatDoor

namespace Go.Proofs.YtpldfakfgngaaaaGreatDoor
open Go.RowKit

theorem tot_mono : ∀ {A B : List Fl}, A.length = B.length → (∀ j (h : j < A.length) (h' : j < B.length), A[j].bytes.length ≤ B[j].bytes.length) → tot A ≤ tot B
  | [], [], _, _ => Nat.le_refl _
  | [], b :: B, h, _ => by simp at h
  | a :: A, [], h, _ => by simp at h
  | a :: A, b :: B, h, hj => by
    have h1 := hj 0 (by simp) (by simp)
    have h2 := tot_mono (A := A) (B := B) (by simpa using h) (fun j h h' => by
      have := hj (j + 1) (by simpa using h) (by simpa using h')
      simpa using this)
    rw [tot_cons, tot_cons]
    simp at h1
    omega
theorem tot_cr {ks : List Int} {L L' : List Fl} (h : Cr ks L.length L L') : tot L' ≤ tot L := by
  refine tot_mono h.len (fun j h1 h2 => ?_)
  obtain ⟨v', e⟩ := h.old j h2 h2
  rw [e]
  show (L[j].bytes.take _).length ≤ _
  rw [List.length_take]
  exact Nat.min_le_right _ _
/-- A disk behind block B. -/
structure Db (B : Nat) (w : World) (d m : Nat) (L : List Fl) (fr N : Nat) : Prop where
  dk : Dk w d m L fr N
  ge : ∀ i, Ft d m L i → B ≤ i
  vw : Vw B w
theorem Sl.db {B : Nat} {w : World} {m : Nat} {L : List Fl} {fr N : Nat} {k : Wk} {F : List Wf} {v : Value} {R : Nat} {rs : List (List UInt8)} {s : Nat} (h : Sl B w m L fr N k F v R rs s) : Db B w k.d m L fr N := ⟨h.lo.dk, h.lo.geD, h.lo.vw⟩
theorem Db.below {B : Nat} {w w' : World} {d m : Nat} {L : List Fl} {fr N : Nat} (h : Db B w d m L fr N) (hb : Below w.heap.size w w') : Db B w' d m L fr N := ⟨h.dk.below hb, h.ge, h.vw.on hb⟩
theorem Crash_db {B : Nat} {w : World} {d m : Nat} {L : List Fl} {fr N : Nat} (q : Option Addr) (cap : Nat) (ks : List Int) (h : Db B w d m L fr N) (hN : N ≤ 100000) (hq : KArg w q ks (Ft d m L)) (hR : fr + tot L ≤ 1099511627776) :
    Calls Tryz.prog 24 #[.pointer (some ⟨d, 0, none⟩), .slice q ks.length cap] w fun e w' => e = .returned (.tuple #[]) ∧ ∃ L' fr', Db B w' d m L' fr' N ∧ Crs (Pu L) (Pu L') ∧ fr' + tot L' = fr + tot L ∧ tot L' ≤ tot L ∧ Below B w w' := by
  refine (Crash_any q cap ks w h.dk (by omega) hq (by omega) (by omega)).mono ?_
  rintro e w' ⟨rfl, L', fr', hc, hr, hS⟩
  have hb := hS.kp.below h.vw.le h.ge
  refine ⟨rfl, L', fr', ⟨hS.dk, fun i hi => ?_, h.vw.below hb⟩, crs_of hc hS.dk.srt (fun f hf => (h.dk.fl f hf).syn), hr, tot_cr hc, hb⟩
  rcases hS.ft i hi with a | a
  · exact h.ge i a
  · exact Nat.le_trans h.vw.le a
theorem New_db {B : Nat} (w : World) (hv : Vw B w) (room : Nat) :
    Calls Tryz.prog 30 #[.int .i64 (room : Int)] w fun e w' => ∃ d m, e = .returned (.pointer (some ⟨d, 0, none⟩)) ∧ Db B w' d m [] room 0 ∧ Below w.heap.size w w' := by
  refine (New_any (room : Int) w).mono ?_
  rintro e w' ⟨d, m, rfl, hD, hb, hft⟩
  rw [Int.toNat_natCast] at hD
  exact ⟨d, m, rfl, ⟨hD, fun i hi => Nat.le_trans hv.le (hft i hi), hv.on hb⟩, hb⟩
/-- A log opened anew behind a crash. -/
theorem Open_ap {B : Nat} {w : World} {d m : Nat} {L : List Fl} {fr N R : Nat} {P : List F3} {F : WF} {p : List UInt8} {rs : List (List UInt8)} {s : Nat} (most : Int) (h : Db B w d m L fr N) (ha : Ap p F P rs s) (hc : Crs P (Pu L)) (hR : fr + tot L = R) (hr : R ≤ 1099511627776) (ht : tot L + tot L ≤ R) (hN : N ≤ 10000) (hp : p.length ≤ 48) (hm : 1 ≤ most) :
    Calls Tryz.prog 9 #[.pointer (some ⟨d, 0, none⟩), .string (bstr p), .int .i64 most] w fun e w' => ∃ (k : Wk) (j : Nat), e = .returned (.tuple #[.pointer (some ⟨k.g, 0, none⟩), .int .i64 0]) ∧ k.d = d ∧ k.p = p ∧ k.most = most ∧ s ≤ j ∧ j ≤ rs.length ∧ Left B w w' m k (2 * N + 10) R (tot L) (rs.take j) 0 := by
  refine (Open_any p most w h.vw h.dk h.ge hp hm (by omega) (by omega) (by omega)).mono ?_
  rintro e w' ⟨L', fr', hS, hP, hR', hb, _, hok⟩
  obtain ⟨F', P'', j, e1, e2, e3, e4, e5⟩ := ha.open (R := fr + tot L) hc (by rw [totP_Pu]; omega)
  rw [e1] at hP hok
  obtain ⟨k, G, v, rfl, k1, k2, k3, hL, hG, hW⟩ := hok rfl
  refine ⟨k, j, rfl, k1, k2, k3, e2, e3, L', fr', G, v, ⟨hL, ?_, by omega, by rw [k2]; exact hp, by rw [k3]; exact hm⟩, hb, ?_⟩
  · rw [k2, hG, hP]; exact e4
  · have e6 : Pu L' = P'' := hP
    rw [← totP_Pu L', e6]
    rw [totP_Pu] at e5
    exact e5
theorem crs_nil : Crs [] [] := ⟨rfl, fun s f h => by simp [lkP] at h⟩
/-- A log on a new disk. -/
theorem Open_new {B : Nat} {w : World} {d m R : Nat} {p : List UInt8} (most : Int) (h : Db B w d m [] R 0) (hr : R ≤ 1099511627776) (hp : p.length ≤ 48) (hm : 1 ≤ most) :
    Calls Tryz.prog 9 #[.pointer (some ⟨d, 0, none⟩), .string (bstr p), .int .i64 most] w fun e w' => ∃ k : Wk, e = .returned (.tuple #[.pointer (some ⟨k.g, 0, none⟩), .int .i64 0]) ∧ k.d = d ∧ k.p = p ∧ k.most = most ∧ Left B w w' m k 10 R 0 [] 0 := by
  refine (Open_ap (R := R) most h (Ap.start p) crs_nil (by simp [tot]) hr (by simp [tot]) (by omega) hp hm).mono ?_
  rintro e w' ⟨k, j, rfl, k1, k2, k3, _, _, hl⟩
  rw [List.take_nil] at hl
  exact ⟨k, rfl, k1, k2, k3, hl⟩

end Go.Proofs.YtpldfakfgngaaaaGreatDoor

namespace Go.Proofs.YtpldfakfgngaaaaGreatDoor
open Go.RowKit

def ra : List UInt8 := [97]
def rb : List UInt8 := [98]
def w1 : List UInt8 := nm [119] 1
theorem pu_one {L : List Fl} {x : F3} (h : Pu L = [x]) : ∃ g, L = [g] := by
  cases L with
  | nil => simp [Pu] at h
  | cons a r =>
    cases r with
    | nil => exact ⟨a, rfl⟩
    | cons b t => simp [Pu] at h
theorem ok1 : okNo 1 := ⟨Nat.le_refl _, by decide⟩
theorem nos1 (b : List UInt8) (k : Nat) : nos [119] [(w1, b, k)] = [1] := by
  have := nos_wth_new (p := [119]) (n := 1) (b := b) (k := k) (P := []) List.Pairwise.nil ok1 (fun m hm => by simp [nos] at hm)
  exact this
theorem srt1 (x : F3) : SrtP [x] := List.pairwise_singleton _ _
theorem sp1 (b : List UInt8) (k : Nat) : wtoP (sp [119]) [(w1, b, k)] = [(w1, b, k)] := wtoP_none (lkP_eq_none fun f hf e => by
  rw [List.mem_singleton.1 hf] at e
  exact sp_alien [119] 1 ok1 e.symm)
theorem of1 (b : List UInt8) (k : Nat) : ofP w1 [(w1, b, k)] = (w1, b, k) := by simp [ofP]
theorem gt1 (b : List UInt8) (k : Nat) : gtP w1 [(w1, b, k)] = b := by unfold gtP; rw [of1]
theorem wth1 (b b' : List UInt8) (k k' : Nat) : wthP (w1, b', k') [(w1, b, k)] = [(w1, b', k')] := by
  have h : ¬ w1 < w1 := lt_irr w1
  simp [wthP, h]
theorem fra : fr [ra] = frm ra := by simp [fr]
theorem op1 (R : Nat) (hR : 100 ≤ R) : opP [119] R [(w1, frm ra, 9)] = ([(w1, frm ra, 9)], [(1, [ra])], 0) := by
  unfold opP
  rw [sp1, nos1]
  have hg : gtP (nm [119] 1) [(w1, frm ra, 9)] = frm ra := gt1 _ _
  have hs : scn' (frm ra) = [ra] := by rw [← fra]; exact scn_fr (by decide)
  have hl : (frm ra).length = 9 := frm_length ra
  have ht : totP [(w1, frm ra, 9)] = 9 := by simp [totP, hl]
  rw [ldP_one (Or.inl rfl) (by rw [sp1, hg, hl, ht]; omega), hg, hs, if_neg (by rw [hl]; decide)]
  unfold rcP
  rw [hg, hs]

set_option maxHeartbeats 1000000 in
set_option maxRecDepth 100000 in
theorem works7_any {B : Nat} (w : World) (hv : Vw B w) :
    Calls Tryz.prog 12 #[] w fun e w' => e = .returned (.bool true) ∧ Below B w w' := by
  have hla : (frm ra).length = 9 := frm_length ra
  have hlb : (frm rb).length = 9 := frm_length rb
  go_enter Tryz.func12, Tryz.ntmps12
  go_wp2_with fail
  refine (New_db w hv 1000).mono ?_
  rintro e v1 ⟨d, m, rfl, h1, hb1⟩
  go_wp2_with fail
  refine (Open_any [119] 20 v1 h1.vw h1.dk h1.ge (by decide) (by decide) (by simp [tot]) (by simp [tot]) (by omega)).mono ?_
  rintro e v2 ⟨L2, fr2, S2, P2, R2, hb2, _, ok2⟩
  have e0 : opP [119] (1000 + tot []) (Pu []) = ([], [], 0) := rfl
  rw [e0] at P2 ok2
  obtain ⟨k, F, v, rfl, rfl, kp, km, h2, hF, hW⟩ := ok2 rfl
  have P2 : Pu L2 = [] := P2
  have eF : F = [] := by cases F with | nil => rfl | cons a r => simp [Pw] at hF
  subst eF
  have hkp : k.p.length ≤ 48 := by rw [kp]; decide
  have R2 : fr2 + tot L2 = 1000 := R2
  have t2 : tot L2 = 0 := by rw [← totP_Pu, P2]; rfl
  have hn0 : nxtF (Pw []) = 1 := rfl
  go_wp2_with fail
  refine (wApp_new ra v2 h2 (by simp) hkp (Or.inl rfl) (fun f hf => by simp at hf) (by rw [hn0]; decide) (by decide) (by omega) (by rw [P2, hla]; exact (by decide : totP ([] : List F3) + 9 ≤ 140737488355328)) (by omega) (by rw [R2, P2, hla]; exact (by decide : ¬ 1000 - totP ([] : List F3) < 9))).mono ?_
  rintro e v3 ⟨rfl, L3, fr3, f, v', h3, K3, pf, P3, R3⟩
  have P3 : Pu L3 = [(w1, frm ra, 0)] := by
    rw [P3, R2, P2, kp, hn0]
    rw [apA_ok (nm_ok (by decide) 1) (by rw [hla]; decide)]
    rfl
  have fnum : f.num = 1 := congrArg Prod.fst pf
  have frec : f.recs = [ra] := congrArg Prod.snd pf
  have hb3 := h2.frame K3
  have hnm : nm k.p f.num = w1 := by rw [kp, fnum]; rfl
  clear pf
  go_wp2_with fail
  refine (wSync_any (F := []) v3 h3 (by simp) hkp (by rw [hnm, P3]; simp [lkP])).mono ?_
  rintro e v4 ⟨rfl, L4, fr4, h4, K4, P4, R4⟩
  have P4 : Pu L4 = [(w1, frm ra, 9)] := by
    rw [P4, hnm, P3]
    unfold syW
    rw [of1, wth1, hla]
  have hb4 := h3.frame K4
  have t4 : tot L4 = 9 := by rw [← totP_Pu, P4]; simp [totP, hla]
  have hsz : totS f.recs = 9 := by rw [frec]; rfl
  go_wp2_with fail
  refine (wApp_old (F := []) rb v4 h4 (by simp) hkp (by rw [hsz, km]; decide) (by decide) (by omega) (by rw [hlb]; omega) (by omega) (by rw [frec]; decide) (by omega) (by rw [totP_Pu, hlb]; omega)).mono ?_
  rintro e v5 ⟨rfl, L5, fr5, f', h5, K5, pf, P5, R5⟩
  have P5 : Pu L5 = [(w1, frm ra ++ frm rb, 9)] := by
    rw [P5, hnm, P4, apA_ok (by rw [← hnm]; exact nm_ok hkp _) (by rw [hlb]; simp [totP, hla]; omega), of1, wth1]
  have hb5 := h4.frame K5
  have t5 : tot L5 = 18 := by rw [← totP_Pu, P5]; simp [totP, hla, hlb]
  clear pf
  go_wp2_with fail
  refine (Crash_any none 0 [] v5 h5.dk (by omega) (karg_nil _ _ _) (by omega) (by omega)).mono ?_
  rintro e v6 ⟨rfl, L6, fr6, C6, R6, S6⟩
  obtain ⟨g, rfl⟩ := pu_one P5
  have hpg : pu g = (w1, frm ra ++ frm rb, 9) := by simpa [Pu] using P5
  have P6 : Pu L6 = [(w1, frm ra, 9)] := by
    obtain ⟨v', rfl⟩ := C6.one
    have g1 : g.name = w1 := congrArg Prod.fst hpg
    have g2 : g.bytes = frm ra ++ frm rb := congrArg (fun x => x.2.1) hpg
    have g3 : g.syn = 9 := congrArg (fun x => x.2.2) hpg
    have hk : kn (kAt [] 0) (g.bytes.length - g.syn) = 0 := by simp [kAt, kn]
    show [(g.name, g.bytes.take (g.syn + kn (kAt [] 0) (g.bytes.length - g.syn)), g.syn + kn (kAt [] 0) (g.bytes.length - g.syn))] = _
    rw [hk, g1, g2, g3]
    have : (frm ra ++ frm rb).take 9 = frm ra := by rw [← hla, List.take_left]
    rw [Nat.add_zero, this]
  have hb6 := S6.kp.below h5.vw.le h5.geD
  have t6 : tot L6 = 9 := by rw [← totP_Pu, P6]; simp [totP, hla]
  have ge6 : ∀ i, Ft k.d m L6 i → B ≤ i := fun i hi => by
    rcases S6.ft i hi with a | a
    · exact h5.geD i a
    · exact Nat.le_trans h5.vw.le a
  have N6 : fr6 + tot L6 = 1000 := by omega
  clear C6 hpg
  go_wp2_with fail
  refine (Open_any [119] 20 v6 (h5.vw.below hb6) S6.dk ge6 (by decide) (by decide) (by omega) (by omega) (by omega)).mono ?_
  rintro e v7 ⟨L7, fr7, S7, P7, R7, hb7, _, ok7⟩
  rw [N6, P6, op1 1000 (by decide)] at P7 ok7
  obtain ⟨k7, F7, u7, rfl, kd7, kp7, km7, h7, hF7, hW7⟩ := ok7 rfl
  have hF7 : Pw F7 = [(1, [ra])] := hF7
  have hn7 : nxtF (Pw F7) = 2 := by rw [hF7]; rfl
  have hl7 : F7.length = 1 := by have := congrArg List.length hF7; simpa [Pw] using this
  have hsr : F7.Pairwise (fun a b => a.num < b.num) := by
    match F7, hl7 with
    | [x], _ => exact List.pairwise_singleton _ _
  have hfi := First_any v7 h7.wm
  rw [hF7] at hfi
  have hge := Get_ok 1 v7 h7.wm hsr (by rw [hF7]; trivial) (by omega) (by rw [hF7]; exact Nat.le_refl _) (by rw [hn7]; decide) (by rw [hn7]; decide) (by omega) (fun f hf r hr => by
    have hm : pw f ∈ Pw F7 := List.mem_map.2 ⟨f, hf, rfl⟩
    rw [hF7] at hm
    have e : f.recs = [ra] := congrArg Prod.snd (List.mem_singleton.1 hm)
    rw [e] at hr
    rw [List.mem_singleton.1 hr]
    decide)
  rw [hF7] at hge
  go_wp2_with fail
  refine hge.mono ?_
  rintro e v8 ⟨⟨b, hb, rfl⟩, hb8⟩
  have hb : b = ra := by
    have : (flatF [(1, [ra])])[1 - fstF [(1, [ra])]]? = some ra := rfl
    rw [this] at hb
    cases hb
    rfl
  subst hb
  have h8 := h7.below hb8
  have hfi := First_any v8 h8.wm
  have hnx := fun v9 (hb : Below v8.heap.size v8 v9) => Next_any v9 (h8.wm.below hb) (by omega) (by rw [hn7]; decide)
  rw [hF7] at hfi hnx
  have hfi : Calls Tryz.prog 26 #[.pointer (some ⟨k7.g, 0, none⟩)] v8 fun e w' => e = .returned (.int .u64 1) ∧ w' = v8 := hfi
  have hnx : ∀ v9, Below v8.heap.size v8 v9 → Calls Tryz.prog 28 #[.pointer (some ⟨k7.g, 0, none⟩)] v9 fun e w' => e = .returned (.int .u64 2) ∧ Below v9.heap.size v9 w' := hnx
  have era : bstr ra = ⟨#[97]⟩ := rfl
  rw [era]
  go_wp2_with fail
  refine hfi.mono ?_
  rintro e v9 ⟨rfl, hv9⟩
  obtain rfl : v8 = v9 := hv9.symm
  clear hv9
  go_wp2_with fail
  refine (hnx v8 (Below.refl _ _)).mono ?_
  rintro e v9 ⟨rfl, hb9⟩
  go_wp2
  go_ret
  have z1 : Below B w v1 := hb1.mono hv.le
  have z2 : Below B v1 v2 := hb2
  have le7 := h7.vw.le
  have z8 : Below B v7 v9 := (hb8.trans (hb9.mono hb8.size)).mono le7
  exact ⟨rfl, z1.trans (z2.trans (hb3.trans (hb4.trans (hb5.trans (hb6.trans (hb7.trans z8))))))⟩

end Go.Proofs.YtpldfakfgngaaaaGreatDoor

