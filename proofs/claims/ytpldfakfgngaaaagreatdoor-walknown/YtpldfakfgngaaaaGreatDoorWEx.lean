/-
  A log whose files, in memory and on its disk, are told exactly: its calls, as a closed law makes them.
-/
import Derived.Test.YtpldfakfgngaaaaGreatDoorWFs2
import Derived.Test.YtpldfakfgngaaaaGreatDoorWNil
import Derived.Test.YtpldfakfgngaaaaGreatDoorWFull
namespace Go.Proofs.YtpldfakfgngaaaaGreatDoor
open Go.RowKit

/-- A log with the files G, on a disk with the files P and room for R bytes. -/
structure Ex (B : Nat) (w : World) (m : Nat) (k : Wk) (G : WF) (P : List F3) (R N : Nat) : Prop where
  go : ∃ L fe F v, Lo B w m L fe N k F v ∧ Pw F = G ∧ Pu L = P ∧ fe + tot L = R
  lg : Lg k.p G P
  pl : k.p.length ≤ 48
theorem Ex.below {B : Nat} {w w' : World} {m : Nat} {k : Wk} {G : WF} {P : List F3} {R N : Nat} (h : Ex B w m k G P R N) (hb : Below w.heap.size w w') : Ex B w' m k G P R N := by
  obtain ⟨L, fe, F, v, a1, a2, a3, a4⟩ := h.go
  exact ⟨⟨L, fe, F, v, a1.below hb, a2, a3, a4⟩, h.lg, h.pl⟩
theorem Ex.vw {B : Nat} {w : World} {m : Nat} {k : Wk} {G : WF} {P : List F3} {R N : Nat} (h : Ex B w m k G P R N) : Vw B w := by
  obtain ⟨L, fe, F, v, a1, a2, a3, a4⟩ := h.go
  exact a1.vw
theorem Ex.db {B : Nat} {w : World} {m : Nat} {k : Wk} {G : WF} {P : List F3} {R N : Nat} (h : Ex B w m k G P R N) : ∃ L fe, Db B w k.d m L fe N ∧ Pu L = P ∧ fe + tot L = R := by
  obtain ⟨L, fe, F, v, a1, a2, a3, a4⟩ := h.go
  exact ⟨L, fe, ⟨a1.dk, a1.geD, a1.vw⟩, a3, a4⟩
theorem lg_len {p : List UInt8} {w : World} {d m fr N : Nat} {L : List Fl} {G : WF} (h : Lg p G (Pu L)) (hD : Dk w d m L fr N) : G.length ≤ N := by
  have h1 : (nos p (Pu L)).length ≤ ((Pu L).map (fun f => f.1)).length := Nat.le_trans (List.length_filterMap_le _ _) (List.length_filter_le _ _)
  have h2 : ((Pu L).map (fun f => f.1)).length = L.length := by simp [Pu]
  have h3 := hD.len
  rw [h.nos] at h1
  simp at h1 h2
  omega
theorem First_ex {B : Nat} {w : World} {m : Nat} {k : Wk} {G : WF} {P : List F3} {R N : Nat} (h : Ex B w m k G P R N) :
    Calls Tryz.prog 26 #[.pointer (some ⟨k.g, 0, none⟩)] w fun e w' => e = .returned (.int .u64 (fstF G : Int)) ∧ w' = w := by
  obtain ⟨L, fe, F, v, a1, rfl, a3, a4⟩ := h.go
  exact First_any w a1.wm
theorem Next_ex {B : Nat} {w : World} {m : Nat} {k : Wk} {G : WF} {P : List F3} {R N : Nat} (h : Ex B w m k G P R N) (hN : N ≤ 100000) (hx : nxtF G ≤ 1000000) :
    Calls Tryz.prog 28 #[.pointer (some ⟨k.g, 0, none⟩)] w fun e w' => e = .returned (.int .u64 (nxtF G : Int)) ∧ Below w.heap.size w w' := by
  have hlg := h.lg
  obtain ⟨L, fe, F, v, a1, rfl, rfl, a4⟩ := h.go
  have hl := lg_len hlg a1.dk
  have e : (Pw F).length = F.length := by simp [Pw]
  exact Next_any w a1.wm (by omega) (by omega)
theorem Get_ex {B : Nat} {w : World} {m : Nat} {k : Wk} {G : WF} {P : List F3} {R N : Nat} (n : Nat) (b : List UInt8) (h : Ex B w m k G P R N) (hN : N ≤ 100000) (hx : nxtF G ≤ 1000000) (h1 : fstF G ≤ n) (h2 : n < nxtF G) (h0 : G ≠ []) (hb : (flatF G)[n - fstF G]? = some b) :
    Calls Tryz.prog 22 #[.pointer (some ⟨k.g, 0, none⟩), .int .u64 (n : Int)] w fun e w' => e = .returned (.tuple #[.string (bstr b), .int .i64 0]) ∧ Below w.heap.size w w' := by
  have hlg := h.lg
  obtain ⟨L, fe, F, v, a1, rfl, rfl, a4⟩ := h.go
  have hl := lg_len hlg a1.dk
  have e : (Pw F).length = F.length := by simp [Pw]
  have hp : 0 < (Pw F).length := List.length_pos_iff.2 h0
  refine (Get_ok n w a1.wm hlg.wf hlg.chn (by omega) h1 h2 (by omega) (by omega) (fun f hf => hlg.small (pw f) (List.mem_map.2 ⟨f, hf, rfl⟩))).mono ?_
  rintro e w' ⟨⟨c, hc, rfl⟩, hbe⟩
  rw [hb] at hc
  cases hc
  exact ⟨rfl, hbe⟩
theorem GetNone_ex {B : Nat} {w : World} {m : Nat} {k : Wk} {G : WF} {P : List F3} {R N : Nat} (n : Nat) (h : Ex B w m k G P R N) (hN : N ≤ 100000) (hx : nxtF G ≤ 1000000) (h1 : n < fstF G ∨ nxtF G ≤ n) :
    Calls Tryz.prog 22 #[.pointer (some ⟨k.g, 0, none⟩), .int .u64 (n : Int)] w fun e w' => e = .returned (.tuple #[.string ⟨#[]⟩, .int .i64 5]) ∧ Below w.heap.size w w' := by
  have hlg := h.lg
  obtain ⟨L, fe, F, v, a1, rfl, rfl, a4⟩ := h.go
  have hl := lg_len hlg a1.dk
  have e : (Pw F).length = F.length := by simp [Pw]
  exact Get_none n w a1.wm (by omega) h1 (by omega)
theorem AppOld_ex {B : Nat} {w : World} {m : Nat} {k : Wk} {A : WF} {n : Nat} {q : List (List UInt8)} {P : List F3} {R N : Nat} (r : List UInt8) (h : Ex B w m k (A ++ [(n, q)]) P R N) (hr : r.length ≤ 1048576) (hR : R ≤ 1099511627776) (hroom : totP P + (r.length + 8) ≤ R) (hN : N ≤ 100000) (hs : (totS q : Int) < k.most) :
    Calls Tryz.prog 13 #[.pointer (some ⟨k.g, 0, none⟩), .string (bstr r)] w fun e w' => e = .returned (.int .i64 0) ∧ Ex B w' m k (A ++ [(n, q ++ [r])]) (wthP (nm k.p n, gtP (nm k.p n) P ++ frm r, syP (nm k.p n) P) P) R (N + 2) ∧ Below B w w' := by
  have hlg := h.lg
  have hfl := frm_length r
  have hlg2 := hlg.app_old hr (syP (nm k.p n) P)
  obtain ⟨L, fe, F, v, a1, a2, rfl, a4⟩ := h.go
  have hto : totP (Pu L) = tot L := totP_Pu L
  have hl := lg_len hlg a1.dk
  rcases snoc_cases F with rfl | ⟨F0, f, rfl⟩
  · simp [Pw] at a2
  · have e2 : Pw (F0 ++ [f]) = Pw F0 ++ [(f.num, f.recs)] := by simp [Pw, pw]
    rw [e2] at a2
    obtain ⟨rfl, e3⟩ := List.append_inj' a2 rfl
    cases e3
    have hgt := hlg.gt (f.num, f.recs) (by simp)
    have hgl : totS f.recs ≤ tot L := by
      have hgt : gtP (nm k.p f.num) (Pu L) = fr f.recs := hgt
      rw [← fr_length, ← hgt]
      exact gtP_le _ _
    have htl := tot_len f.recs
    have e4 : (Pw F0 ++ [(f.num, f.recs)]).length = F0.length + 1 := by simp [Pw]
    refine (wApp_old r w a1 (by omega) h.pl hs hr (by omega) (by omega) (by omega) (by omega) (by omega) (by rw [hto]; omega)).mono ?_
    rintro e w' ⟨rfl, L', fr', f', b1, b2, b3, b4, b5⟩
    rw [apA_ok (nm_ok h.pl _) (by rw [hto]; omega)] at b4
    refine ⟨rfl, ⟨⟨L', fr', F0 ++ [f'], v, ⟨b1.dk.mono (by omega), b1.wm, b1.geD, b1.geW, b1.vw⟩, ?_, b4, by omega⟩, hlg2, h.pl⟩, a1.frame b2⟩
    show (F0 ++ [f']).map pw = _
    rw [List.map_append, List.map_singleton, b3]
    rfl

end Go.Proofs.YtpldfakfgngaaaaGreatDoor
