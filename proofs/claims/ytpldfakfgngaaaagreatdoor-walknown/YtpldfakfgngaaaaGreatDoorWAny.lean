/-
  A disk with one file of a log and others: as lists, and the law WalAny.
-/
import Derived.Test.YtpldfakfgngaaaaGreatDoorWLWalk
namespace Go.Proofs.YtpldfakfgngaaaaGreatDoor
open Go.RowKit
attribute [local go_sem] size_bstr toList_bstr append_bstr

theorem App_db {B : Nat} {w : World} {d m : Nat} {L : List Fl} {fr N : Nat} (s t : List UInt8) (h : Db B w d m L fr N) (hs : okN s = true) (hN : N ≤ 100000) (hR : fr + tot L ≤ 1099511627776) (ht : tot L + t.length ≤ fr + tot L) :
    Calls Tryz.prog 31 #[.pointer (some ⟨d, 0, none⟩), .string (bstr s), .string (bstr t)] w fun e w' => e = .returned (.int .i64 0) ∧ ∃ L' fr', Db B w' d m L' fr' (N + 1) ∧ Pu L' = wthP (s, gtP s (Pu L) ++ t, syP s (Pu L)) (Pu L) ∧ fr' + tot L' = fr + tot L ∧ tot L' ≤ tot L + t.length ∧ Below B w w' := by
  refine (App_all s t w h.dk (by omega) (by omega) (by unfold maxLen; omega)).mono ?_
  rintro e w' ⟨he, L', fr', hS, hP, hr, hT⟩
  rw [apA_ok hs (by rw [totP_Pu]; omega)] at he hP
  have hb := hS.kp.below h.vw.le h.ge
  refine ⟨he, L', fr', ⟨hS.dk, fun i hi => ?_, h.vw.below hb⟩, hP, hr, hT, hb⟩
  rcases hS.ft i hi with a | a
  · exact h.ge i a
  · exact Nat.le_trans h.vw.le a
theorem Read_db {B : Nat} {w : World} {d m : Nat} {L : List Fl} {fr N : Nat} (s : List UInt8) (h : Db B w d m L fr N) (hs : s.length ≤ 100) :
    Calls Tryz.prog 33 #[.pointer (some ⟨d, 0, none⟩), .string (bstr s)] w fun e w' => e = .returned (.tuple #[.string (bstr (gtP s (Pu L))), .int .i64 (if (lkP s (Pu L)).isSome = true then 0 else 5)]) ∧ w' = w := by
  refine (Read_any s w h.dk (by unfold maxLen; omega)).mono ?_
  rintro e w' ⟨rfl, rfl⟩
  have h1 : gtP s (Pu L) = by_ (lk s L) := (ofP_Pu s L).1
  have h2 : (lkP s (Pu L)).isSome = (lk s L).isSome := isP_Pu s L
  rw [h1, h2]
  refine ⟨?_, rfl⟩
  cases lk s L <;> rfl
theorem scn_small : ∀ (k : Nat) (s : List UInt8), ∀ b ∈ scn k s, b.length ≤ 1048576
  | 0, _ => fun b hb => by simp [scn] at hb
  | k + 1, s => fun b hb => by
    cases e : opn s with
    | none => rw [scn_none e] at hb; simp at hb
    | some c =>
      rw [scn_some e] at hb
      rcases List.mem_cons.1 hb with rfl | hb
      · exact (opn_some e).1
      · exact scn_small k _ b hb

def n5 : List UInt8 := [119, 48, 48, 48, 48, 48, 48, 48, 48, 48, 48, 48, 48, 48, 48, 48, 53]
def nv : List UInt8 := [118]
def nt : List UInt8 := [119, 116, 109, 112]
def na : List UInt8 := [119, 48, 48, 48, 48, 48, 48, 48, 48, 48, 48, 48, 48, 48, 48, 48, 97]
def nz : List UInt8 := [119, 49, 48, 48, 48, 48, 48, 48, 48, 48, 48, 48, 48, 48, 48, 48, 49]
theorem n5_eq : n5 = nm [119] 5 := by decide +kernel
theorem nt_eq : nt = sp [119] := rfl
theorem al_v : alien [119] nv := fun n _ e => by
  have := congrArg List.length e
  rw [nm_length] at this
  simp [nv] at this
theorem nm_tail {p : List UInt8} {n : Nat} {x : UInt8} {l : List UInt8} (hp : p = [x]) (h : x :: l = nm p n) : dgs 16 n = l := by
  subst hp
  rw [nm, List.singleton_append] at h
  exact (List.cons.inj h).2.symm
theorem al_a : alien [119] na := fun n _ e => by
  have e2 := nm_tail rfl e
  have := dgs_all 16 n 97 (by rw [e2]; decide)
  revert this
  decide
theorem al_z : alien [119] nz := fun n hn e => by
  have e2 := nm_tail rfl e
  have h2 := numL_dgs 16 n (by have := hn.2; omega)
  rw [e2] at h2
  have h3 : numL [49, 48, 48, 48, 48, 48, 48, 48, 48, 48, 48, 48, 48, 48, 48, 49] = 1000000000000001 := by decide +kernel
  have := hn.2
  omega
/-- The five files. -/
def pAny (b : List UInt8) : List F3 := wthP (nz, [122], 0) (wthP (na, [121], 0) (wthP (nt, [120], 0) (wthP (nv, [109, 105, 110, 101], 0) (wthP (n5, b, 0) []))))
theorem s5 (b : List UInt8) : SrtP (wthP (n5, b, 0) []) := wthP_srt List.Pairwise.nil
theorem sv (b : List UInt8) : SrtP (wthP (nv, [109, 105, 110, 101], 0) (wthP (n5, b, 0) [])) := wthP_srt (s5 b)
theorem st (b : List UInt8) : SrtP (wthP (nt, [120], 0) (wthP (nv, [109, 105, 110, 101], 0) (wthP (n5, b, 0) []))) := wthP_srt (sv b)
theorem sa (b : List UInt8) : SrtP (wthP (na, [121], 0) (wthP (nt, [120], 0) (wthP (nv, [109, 105, 110, 101], 0) (wthP (n5, b, 0) [])))) := wthP_srt (st b)
theorem sAny (b : List UInt8) : SrtP (pAny b) := wthP_srt (sa b)
theorem ne5v : n5 ≠ nv := by decide
theorem ne5t : n5 ≠ nt := by decide
theorem ne5a : n5 ≠ na := by decide
theorem ne5z : n5 ≠ nz := by decide
theorem nevt : nv ≠ nt := by decide
theorem neva : nv ≠ na := by decide
theorem nevz : nv ≠ nz := by decide
theorem neta : nt ≠ na := by decide
theorem netz : nt ≠ nz := by decide
theorem neaz : na ≠ nz := by decide
theorem lk5 (b : List UInt8) : lkP n5 (pAny b) = some (n5, b, 0) := by
  unfold pAny
  rw [lkP_wth_other (sa b) ne5z, lkP_wth_other (st b) ne5a, lkP_wth_other (sv b) ne5t, lkP_wth_other (s5 b) ne5v]
  exact lkP_wth_same List.Pairwise.nil (n5, b, 0)
theorem lkv (b : List UInt8) : lkP nv (pAny b) = some (nv, [109, 105, 110, 101], 0) := by
  unfold pAny
  rw [lkP_wth_other (sa b) nevz, lkP_wth_other (st b) neva, lkP_wth_other (sv b) nevt]
  exact lkP_wth_same (s5 b) (nv, [109, 105, 110, 101], 0)
theorem lka (b : List UInt8) : lkP na (pAny b) = some (na, [121], 0) := by
  unfold pAny
  rw [lkP_wth_other (sa b) neaz]
  exact lkP_wth_same (st b) (na, [121], 0)
theorem lkz (b : List UInt8) : lkP nz (pAny b) = some (nz, [122], 0) := lkP_wth_same (sa b) (nz, [122], 0)
theorem nosAny (b : List UInt8) : nos [119] (pAny b) = [5] := by
  unfold pAny
  rw [nos_wth_alien (sa b) al_z, nos_wth_alien (st b) al_a, nos_wth_alien (sv b) (by rw [nt_eq]; exact sp_alien _), nos_wth_alien (s5 b) al_v, n5_eq]
  exact nos_wth_new (P := []) List.Pairwise.nil ⟨by decide, by decide⟩ (fun m hm => by simp [nos] at hm)
/-- The files without the spare one. -/
def qAny (b : List UInt8) : List F3 := wtoP nt (pAny b)
theorem sq (b : List UInt8) : SrtP (qAny b) := wtoP_srt (sAny b)
theorem gt5 (b : List UInt8) : gtP n5 (qAny b) = b := gtP_some (f := (n5, b, 0)) (by unfold qAny; rw [lkP_wto_other (sAny b) ne5t]; exact lk5 b)
theorem totq (b : List UInt8) : totP (qAny b) ≤ totP (pAny b) := by
  unfold qAny
  generalize pAny b = P
  induction P with
  | nil => exact Nat.le_refl _
  | cons x r ih =>
    unfold wtoP at ih ⊢
    rw [List.filter_cons]
    split
    · rw [totP_cons, totP_cons]; omega
    · rw [totP_cons]; omega
theorem opAny (b : List UInt8) (R : Nat) (hR : totP (pAny b) + b.length ≤ R) :
    opP [119] R (pAny b) = (if totS (scn' b) < b.length then wthP (n5, b.take (totS (scn' b)), (b.take (totS (scn' b))).length) (qAny b) else qAny b, [(5, scn' b)], 0) := by
  have e1 : wtoP (sp [119]) (pAny b) = qAny b := rfl
  have e2 : nos [119] (qAny b) = [5] := (nos_wto_alien (sAny b) (sp_alien [119])).trans (nosAny b)
  have e3 : wtoP (sp [119]) (qAny b) = qAny b := wtoP_none (lkP_wto_same _ _)
  have e4 : gtP (nm [119] 5) (qAny b) = b := by rw [← n5_eq]; exact gt5 b
  unfold opP
  rw [e1, e2, ldP_one (Or.inl rfl) (by rw [e3, e4]; have := totq b; omega), e3, e4]
  unfold rcP
  rw [e4, ← n5_eq]
/-- What the files are behind Open. -/
theorem rAny {b : List UInt8} {P : List F3} (h : P = if totS (scn' b) < b.length then wthP (n5, b.take (totS (scn' b)), (b.take (totS (scn' b))).length) (qAny b) else qAny b) :
    gtP n5 P = b.take (totS (scn' b)) ∧ (lkP n5 P).isSome = true ∧ lkP nv P = some (nv, [109, 105, 110, 101], 0) ∧ lkP na P = some (na, [121], 0) ∧ lkP nz P = some (nz, [122], 0) ∧ lkP nt P = none := by
  have q1 : lkP nv (qAny b) = some (nv, [109, 105, 110, 101], 0) := by unfold qAny; rw [lkP_wto_other (sAny b) nevt]; exact lkv b
  have q2 : lkP na (qAny b) = some (na, [121], 0) := by unfold qAny; rw [lkP_wto_other (sAny b) neta.symm]; exact lka b
  have q3 : lkP nz (qAny b) = some (nz, [122], 0) := by unfold qAny; rw [lkP_wto_other (sAny b) netz.symm]; exact lkz b
  have q4 : lkP nt (qAny b) = none := lkP_wto_same _ _
  have q5 : lkP n5 (qAny b) = some (n5, b, 0) := by unfold qAny; rw [lkP_wto_other (sAny b) ne5t]; exact lk5 b
  by_cases hw : totS (scn' b) < b.length
  · rw [if_pos hw] at h
    subst h
    refine ⟨gtP_wth_same (sq b) (n5, b.take (totS (scn' b)), (b.take (totS (scn' b))).length), ?_, ?_, ?_, ?_, ?_⟩
    · rw [show lkP n5 (wthP (n5, b.take (totS (scn' b)), (b.take (totS (scn' b))).length) (qAny b)) = _ from lkP_wth_same (sq b) (n5, b.take (totS (scn' b)), (b.take (totS (scn' b))).length)]; rfl
    · rw [lkP_wth_other (sq b) (f := (n5, b.take (totS (scn' b)), (b.take (totS (scn' b))).length)) ne5v.symm]; exact q1
    · rw [lkP_wth_other (sq b) (f := (n5, b.take (totS (scn' b)), (b.take (totS (scn' b))).length)) ne5a.symm]; exact q2
    · rw [lkP_wth_other (sq b) (f := (n5, b.take (totS (scn' b)), (b.take (totS (scn' b))).length)) ne5z.symm]; exact q3
    · rw [lkP_wth_other (sq b) (f := (n5, b.take (totS (scn' b)), (b.take (totS (scn' b))).length)) ne5t.symm]; exact q4
  · rw [if_neg hw] at h
    subst h
    refine ⟨?_, by rw [q5]; rfl, q1, q2, q3, q4⟩
    rw [gt5, List.take_of_length_le (by have := scn'_tot b; omega)]

end Go.Proofs.YtpldfakfgngaaaaGreatDoor
