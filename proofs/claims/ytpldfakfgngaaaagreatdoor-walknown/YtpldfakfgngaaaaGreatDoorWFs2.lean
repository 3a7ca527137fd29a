/-
  A log all of whose records are synced: its calls.
-/
import Derived.Test.YtpldfakfgngaaaaGreatDoorWFs
namespace Go.Proofs.YtpldfakfgngaaaaGreatDoor
open Go.RowKit

theorem chn_le : ∀ {F : WF}, Chn F → ∀ x ∈ F, x.1 + x.2.length ≤ nxtF F
  | [], _, x, hx => by simp at hx
  | [a], _, x, hx => by
    rw [List.mem_singleton.1 hx]
    simp [nxtF]
  | a :: b :: r, h, x, hx => by
    have e : nxtF (a :: b :: r) = nxtF (b :: r) := by simp [nxtF]
    have h1 := chn_le h.2
    rw [e]
    rcases List.mem_cons.1 hx with rfl | hx
    · have := h1 b (by simp)
      have := h.1
      omega
    · exact h1 x hx
structure Sf (B : Nat) (w : World) (m : Nat) (L : List Fl) (fe N : Nat) (k : Wk) (F : List Wf) (v : Value) (R : Nat) : Prop where
  lo : Lo B w m L fe N k F v
  fs : Fs k.p (Pw F) (Pu L)
  room : fe + tot L = R
  pl : k.p.length ≤ 48
theorem Sf.of {B : Nat} {w : World} {m : Nat} {L : List Fl} {fe N : Nat} {k : Wk} {F : List Wf} {v : Value} {R : Nat} {rs : List (List UInt8)} (h : Sl B w m L fe N k F v R rs rs.length) : Sf B w m L fe N k F v R := ⟨h.lo, Fs.of_ap h.ap, h.room, h.pl⟩
theorem Sf.below {B : Nat} {w w' : World} {m : Nat} {L : List Fl} {fe N : Nat} {k : Wk} {F : List Wf} {v : Value} {R : Nat} (h : Sf B w m L fe N k F v R) (hb : Below w.heap.size w w') : Sf B w' m L fe N k F v R := ⟨h.lo.below hb, h.fs, h.room, h.pl⟩
theorem Sf.more {B : Nat} {w : World} {m : Nat} {L : List Fl} {fe N N' : Nat} {k : Wk} {F : List Wf} {v : Value} {R : Nat} (h : Sf B w m L fe N k F v R) (hN : N ≤ N') : Sf B w m L fe N' k F v R := ⟨⟨h.lo.dk.mono hN, h.lo.wm, h.lo.geD, h.lo.geW, h.lo.vw⟩, h.fs, h.room, h.pl⟩
theorem Sf.len {B : Nat} {w : World} {m : Nat} {L : List Fl} {fe N : Nat} {k : Wk} {F : List Wf} {v : Value} {R : Nat} (h : Sf B w m L fe N k F v R) : F.length ≤ N := by
  have h1 : (nos k.p (Pu L)).length ≤ ((Pu L).map (fun f => f.1)).length := Nat.le_trans (List.length_filterMap_le _ _) (List.length_filter_le _ _)
  have h2 : ((Pu L).map (fun f => f.1)).length = L.length := by simp [Pu]
  have h3 := h.lo.dk.len
  rw [h.fs.lg.nos] at h1
  simp [Pw] at h1 h2
  omega
theorem Sf.ex {B : Nat} {w : World} {m : Nat} {L : List Fl} {fe N : Nat} {k : Wk} {F : List Wf} {v : Value} {R : Nat} (h : Sf B w m L fe N k F v R) : ∀ f ∈ F, okNo f.num ∧ (lkP (nm k.p f.num) (Pu L)).isSome = true := fun f hf => h.fs.lg.ok (x := pw f) (List.mem_map.2 ⟨f, hf, rfl⟩)
theorem Drop_fs {B : Nat} {w : World} {m : Nat} {L : List Fl} {fe N : Nat} {k : Wk} {F : List Wf} {v : Value} {R : Nat} (c : Nat) (h : Sf B w m L fe N k F v R) (hnx : nxtF (Pw F) < 18446744073709551616) (hR : R ≤ 1099511627776) :
    Calls Tryz.prog 21 #[.pointer (some ⟨k.g, 0, none⟩), .int .u64 (c : Int)] w fun e w' => e = .returned (.int .i64 0) ∧ ∃ L' fe' F' v', Sf B w' m L' fe' (N + N) k F' v' R ∧ Below B w w' ∧ tot L' ≤ tot L ∧ (fstF (Pw F') ≤ c ∨ fstF (Pw F') = fstF (Pw F)) ∧ fstF (Pw F) ≤ fstF (Pw F') ∧ flatF (Pw F') = (flatF (Pw F)).drop (fstF (Pw F') - fstF (Pw F)) ∧ nxtF (Pw F') = nxtF (Pw F) := by
  have hroom := h.room
  have hl := h.len
  refine (Drop_any c w h.lo h.pl h.fs.lg.wf h.ex (fun f hf => by
    have := chn_le h.fs.lg.chn (pw f) (List.mem_map.2 ⟨f, hf, rfl⟩)
    have e : (pw f).1 + (pw f).2.length = f.num + f.recs.length := rfl
    omega) (by omega)).mono ?_
  rintro e w' ⟨rfl, F1, L1, fe1, v1, D, hD⟩
  have hf := drP_fs c (Pw F) (Pu L) h.fs
  rw [← hD] at hf
  obtain ⟨f1, f2, f3, f4, f5⟩ := hf
  have q1 := D.room
  refine ⟨rfl, L1, fe1, F1, v1, ?_, D.frame, D.le, f2, f3, f4, f5⟩
  refine Sf.more (N := N + (F.length - F1.length)) ⟨D.lo, f1, by omega, h.pl⟩ (by omega)
theorem Cut_fs {B : Nat} {w : World} {m : Nat} {L : List Fl} {fe N : Nat} {k : Wk} {F : List Wf} {v : Value} {R : Nat} (c : Nat) (h : Sf B w m L fe N k F v R) (hnx : nxtF (Pw F) < 18446744073709551616) (hR : R ≤ 1099511627776) (hN : N ≤ 100000) (h1 : fstF (Pw F) ≤ c) (h2 : c < nxtF (Pw F)) (ht : tot L + tot L ≤ R) :
    Calls Tryz.prog 18 #[.pointer (some ⟨k.g, 0, none⟩), .int .u64 (c : Int)] w fun e w' => e = .returned (.int .i64 0) ∧ ∃ L' fe' F' v', Sf B w' m L' fe' (N + N + 4) k F' v' R ∧ Below B w w' ∧ fstF (Pw F') = fstF (Pw F) ∧ flatF (Pw F') = (flatF (Pw F)).take (c - fstF (Pw F)) ∧ nxtF (Pw F') = c := by
  have hroom := h.room
  have hl := h.len
  refine (Cut_mid c w h.lo h.pl (by omega) h.fs.lg.wf h.ex h.fs.lg.chn h1 h2 hnx (fun f hf => h.fs.lg.small (pw f) (List.mem_map.2 ⟨f, hf, rfl⟩)) (fun f hf => by
    have hgt := h.fs.lg.gt (pw f) (List.mem_map.2 ⟨f, hf, rfl⟩)
    have hgt : gtP (nm k.p f.num) (Pu L) = fr f.recs := hgt
    rw [← fr_length, ← hgt]
    exact gtP_le _ _) (by omega) (by omega) hN).mono ?_
  rintro e w' ⟨rfl, A, f, Rr, L', fe', f', v', eF, c1, c2, c3, hlo, epw, hb, eP, eR⟩
  subst eF
  have e1 : Pw (A ++ f :: Rr) = (Pw A ++ [pw f]) ++ Pw Rr := by simp [Pw]
  have hfs := h.fs
  rw [e1] at hfs
  have hQ := Fs.rms Rr hfs
  have hQ2 := hQ.short (A := Pw A) (n := f.num) (q := f.recs) (c - f.num)
  rw [wtoP_none hQ.sp_none] at eP
  have e2 : Pw (A ++ [f']) = Pw A ++ [(f.num, f.recs.take (c - f.num))] := by
    show (A ++ [f']).map pw = _
    rw [List.map_append, List.map_singleton, epw]
    rfl
  have hlR : Rr.length ≤ N := by simp at hl; omega
  have hfst : fstF (Pw A ++ [pw f]) = fstF (Pw (A ++ f :: Rr)) := by
    rw [e1]
    cases A with
    | nil => rfl
    | cons a r => rfl
  have hnq := nxt_eq hQ.lg.chn (by simp)
  have en : nxtF (Pw A ++ [pw f]) = f.num + f.recs.length := by simp [nxtF, pw]
  rw [en, hfst, flatF_append, List.length_append] at hnq
  have ef : flatF [pw f] = f.recs := by simp [flatF, pw]
  rw [ef] at hnq
  refine ⟨rfl, L', fe', A ++ [f'], v', Sf.more (N := N + Rr.length + 4) ⟨hlo, by rw [e2, eP]; exact hQ2, by omega, h.pl⟩ (by omega), hb, ?_, ?_, ?_⟩
  · rw [e2, ← hfst]
    exact fst_snoc rfl
  · rw [e2, e1, flatF_append, flatF_append, flatF_append, ef]
    have e3 : fstF (Pw A ++ [pw f] ++ Pw Rr) = fstF (Pw (A ++ f :: Rr)) := by rw [e1]
    rw [e3, show c - fstF (Pw (A ++ f :: Rr)) = (flatF (Pw A)).length + (c - f.num) by omega, List.append_assoc, List.take_length_add_append]
    have e4 : flatF [(f.num, f.recs.take (c - f.num))] = f.recs.take (c - f.num) := by simp [flatF]
    rw [e4, List.take_append_of_le_length (by omega)]
  · rw [e2]
    have : nxtF (Pw A ++ [(f.num, f.recs.take (c - f.num))]) = f.num + (f.recs.take (c - f.num)).length := by simp [nxtF]
    rw [this, List.length_take]
    omega
theorem Open_fs {B : Nat} {w : World} {d m : Nat} {L : List Fl} {fe N R : Nat} {P : List F3} {G : WF} {p : List UInt8} (most : Int) (h : Db B w d m L fe N) (hf : Fs p G P) (hc : Crs P (Pu L)) (hR : fe + tot L = R) (hr : R ≤ 1099511627776) (hN : N ≤ 10000) (hp : p.length ≤ 48) (hm : 1 ≤ most) :
    Calls Tryz.prog 9 #[.pointer (some ⟨d, 0, none⟩), .string (bstr p), .int .i64 most] w fun e w' => ∃ k F v, e = .returned (.tuple #[.pointer (some ⟨k.g, 0, none⟩), .int .i64 0]) ∧ Wm w' k F v ∧ Pw F = G ∧ Vw B w' ∧ Below B w w' := by
  refine (Open_any p most w h.vw h.dk h.ge hp hm (by omega) (by omega) (by omega)).mono ?_
  rintro e w' ⟨L', fe', hS, hP, hR', hb, _, hok⟩
  rw [hf.open hc] at hok
  obtain ⟨k, F, v, rfl, k1, k2, k3, hL, hG, hW⟩ := hok rfl
  exact ⟨k, F, v, rfl, hL.wm, hG, hL.vw, hb⟩

end Go.Proofs.YtpldfakfgngaaaaGreatDoor
