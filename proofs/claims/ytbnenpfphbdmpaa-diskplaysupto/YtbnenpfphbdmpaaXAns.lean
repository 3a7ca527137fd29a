/-
  What the program answers to a step, and what the document does: the same.
-/
import Derived.Test.YtbnenpfphbdmpaaXTie
namespace Go.Proofs.Ytbnenpfphbdmpaa
open Go.RowKit

/-- A step of the program: it answers x, and the files are P' behind it. -/
structure PA (w w' : World) (e : Ending) (d m : Nat) (L : List Fl) (fr N : Nat) (P' : List F3) (x : Int) (t : Nat) : Prop where
  out : e = .returned (.int .i64 x)
  go : ∃ L' fr', Stp w w' d m L L' fr' (N + 1) ∧ Pu L' = P' ∧ fr' + tot L' = fr + tot L ∧ tot L' ≤ tot L + t
theorem PA.same {w : World} {d m fr N : Nat} {L : List Fl} (h : Dk w d m L fr N) (x : Int) (t : Nat) : PA w w (.returned (.int .i64 x)) d m L fr N (Pu L) x t :=
  ⟨rfl, L, fr, ⟨h.mono (Nat.le_succ _), Kp.refl _ _, fun _ h => Or.inl h⟩, rfl, rfl, Nat.le_add_right _ _⟩

def apA (R : Nat) (s t : List UInt8) (P : List F3) : List F3 × Int := if okN s = false then (P, 2) else if R - totP P < t.length then (P, 7) else (wthP (s, (ofP s P).2.1 ++ t, (ofP s P).2.2) P, 0)
theorem apA_arg {R : Nat} {s t : List UInt8} {P : List F3} (h : okN s = false) : apA R s t P = (P, 2) := by simp [apA, h]
theorem apA_full {R : Nat} {s t : List UInt8} {P : List F3} (h : okN s = true) (hf : R - totP P < t.length) : apA R s t P = (P, 7) := by simp [apA, h, hf]
theorem apA_ok {R : Nat} {s t : List UInt8} {P : List F3} (h : okN s = true) (hf : ¬ R - totP P < t.length) : apA R s t P = (wthP (s, (ofP s P).2.1 ++ t, (ofP s P).2.2) P, 0) := by simp [apA, h, hf]
theorem RApp_all (R cap : Nat) (q : Option Addr) (P : List F3) (s t : List UInt8) (w : World) (hP : FArg w q cap P) (hs : SrtP P) (hn : P.length ≤ 1000000) (hl : s.length ≤ 9223372036854775807) (hR : R ≤ 9223372036854775807) (ht : totP P ≤ R) (hc : (ofP s P).2.1.length + t.length ≤ 9223372036854775807) :
    Calls Try.prog 26 #[rdV R q P.length cap, .string (bstr s), .string (bstr t)] w fun e w' => RA w w' e R (apA R s t P).1 (apA R s t P).2 := by
  cases hok : okN s with
  | false => rw [apA_arg hok]; exact RAppend_arg R cap q P s t w hP hl (by rw [okN_eq, hok])
  | true =>
    by_cases hf : R - totP P < t.length
    · rw [apA_full hok hf]; exact RAppend_full R cap q P s t w hP hn hl (by rw [okN_eq, hok]) hR ht (by omega)
    · rw [apA_ok hok hf]; exact RAppend_ok R cap q P s t w hP hs hn hl (by rw [okN_eq, hok]) hR ht (by omega) hc
theorem App_all {d m fr N : Nat} {L : List Fl} (s t : List UInt8) (w : World) (h : Dk w d m L fr N) (hfit : fr + tot L ≤ 9223372036854775807) (hb : tot L + t.length ≤ 140737488355328) (hN : N < maxLen) :
    Calls Try.prog 20 #[.pointer (some ⟨d, 0, none⟩), .string (bstr s), .string (bstr t)] w fun e w' => PA w w' e d m L fr N (apA (fr + tot L) s t (Pu L)).1 (apA (fr + tot L) s t (Pu L)).2 t.length := by
  have hR : fr + tot L - totP (Pu L) = fr := by rw [totP_Pu]; omega
  cases hok : okN s with
  | false =>
    rw [apA_arg hok]
    refine (Append_arg s t w h hok).mono ?_
    rintro e w' ⟨rfl, rfl⟩
    exact PA.same h _ _
  | true =>
    by_cases hf : fr < t.length
    · rw [apA_full hok (by rw [hR]; exact hf)]
      refine (Append_full s t w h hok hf).mono ?_
      rintro e w' ⟨rfl, rfl⟩
      exact PA.same h _ _
    · rw [apA_ok hok (by rw [hR]; exact hf)]
      refine (Append_ok s t w h hok (by omega) hb (by omega) hN).mono ?_
      rintro e w' ⟨rfl, f', n1, b1, s1, hS⟩
      have ht := tot_app h.srt n1 b1
      exact ⟨rfl, _, _, hS, (tie_app n1 b1 s1).symm, by omega, by omega⟩

def syA (s : List UInt8) (P : List F3) : List F3 × Int := if isP s P = true then (wthP (s, (ofP s P).2.1, (ofP s P).2.1.length) P, 0) else (P, 5)
theorem RSyn_all (R cap : Nat) (q : Option Addr) (P : List F3) (s : List UInt8) (w : World) (hP : FArg w q cap P) (hs : SrtP P) (hn : P.length ≤ 1000000) (hb : (ofP s P).2.1.length ≤ 9223372036854775807) :
    Calls Try.prog 27 #[rdV R q P.length cap, .string (bstr s)] w fun e w' => RA w w' e R (syA s P).1 (syA s P).2 := by
  cases hi : isP s P with
  | false => simp only [syA, hi, Bool.false_eq_true, if_false]; exact RSync_none R cap q P s w hP hs hn hi
  | true => simp only [syA, hi, if_true]; exact RSync_ok R cap q P s w hP hs hn hi hb
theorem Syn_all {d m fr N : Nat} {L : List Fl} (s : List UInt8) (t : Nat) (w : World) (h : Dk w d m L fr N) (hl : s.length ≤ maxLen) :
    Calls Try.prog 21 #[.pointer (some ⟨d, 0, none⟩), .string (bstr s)] w fun e w' => PA w w' e d m L fr N (syA s (Pu L)).1 (syA s (Pu L)).2 t := by
  refine (Sync_any s w h hl).mono ?_
  rintro e w' ⟨rfl, hS⟩
  cases e : lk s L with
  | none =>
    have hi : isP s (Pu L) = false := by rw [isP_Pu, e]; rfl
    have hL : synL s L = L := by simp [synL, e]
    rw [hL] at hS
    simp only [syA, hi, Bool.false_eq_true, if_false]
    exact ⟨rfl, L, fr, ⟨hS.dk.mono (Nat.le_succ _), hS.kp, hS.ft⟩, rfl, rfl, Nat.le_add_right _ _⟩
  | some f =>
    have hi : isP s (Pu L) = true := by rw [isP_Pu, e]; rfl
    have ht : tot (synL s L) = tot L := by
      obtain ⟨_, rfl⟩ := lk_some e
      have := tot_wth_old (f := { f with syn := f.bytes.length }) (o := f) h.srt e
      have h2 : ({ f with syn := f.bytes.length } : Fl).bytes.length = f.bytes.length := rfl
      have h3 : synL f.name L = wth { f with syn := f.bytes.length } L := by unfold synL; rw [e]
      rw [h3]
      omega
    simp only [syA, hi, if_true]
    exact ⟨rfl, _, _, ⟨hS.dk.mono (Nat.le_succ _), hS.kp, hS.ft⟩, (tie_syn hi).symm, by rw [ht], by omega⟩

def rmA (s : List UInt8) (P : List F3) : List F3 × Int := if isP s P = true then (wtoP s P, 0) else (P, 5)
theorem RRem_all (R cap : Nat) (q : Option Addr) (P : List F3) (s : List UInt8) (w : World) (hP : FArg w q cap P) (hs : SrtP P) (hn : P.length ≤ 1000000) :
    Calls Try.prog 30 #[rdV R q P.length cap, .string (bstr s)] w fun e w' => RA w w' e R (rmA s P).1 (rmA s P).2 := by
  cases hi : isP s P with
  | false => simp only [rmA, hi, Bool.false_eq_true, if_false]; exact RRemove_none R cap q P s w hP hs hn hi
  | true => simp only [rmA, hi, if_true]; exact RRemove_ok R cap q P s w hP hs hn hi
theorem Rem_all {d m fr N : Nat} {L : List Fl} (s : List UInt8) (t : Nat) (w : World) (h : Dk w d m L fr N) (hl : s.length ≤ maxLen) (hfit : fr + tot L ≤ 9223372036854775807) :
    Calls Try.prog 25 #[.pointer (some ⟨d, 0, none⟩), .string (bstr s)] w fun e w' => PA w w' e d m L fr N (rmA s (Pu L)).1 (rmA s (Pu L)).2 t := by
  refine (Remove_any s w h hl hfit).mono ?_
  rintro e w' ⟨rfl, hS⟩
  cases e : lk s L with
  | none =>
    have hi : isP s (Pu L) = false := by rw [isP_Pu, e]; rfl
    rw [wto_none e, e] at hS
    simp only [rmA, hi, Bool.false_eq_true, if_false]
    exact ⟨rfl, L, fr, ⟨hS.dk.mono (Nat.le_succ _), hS.kp, hS.ft⟩, rfl, rfl, Nat.le_add_right _ _⟩
  | some f =>
    have hi : isP s (Pu L) = true := by rw [isP_Pu, e]; rfl
    have ht := tot_wto h.srt e
    rw [e] at hS
    simp only [rmA, hi, if_true]
    exact ⟨rfl, _, _, ⟨hS.dk.mono (Nat.le_succ _), hS.kp, hS.ft⟩, Pu_wto s L, by simp only [by_]; omega, by omega⟩

def rnA (s t : List UInt8) (P : List F3) : List F3 × Int := if isP s P = true then (if okN t = true then (wthP (t, (ofP s P).2.1, (ofP s P).2.2) (wtoP s P), 0) else (P, 2)) else (P, 5)
theorem RRen_all (R cap : Nat) (q : Option Addr) (P : List F3) (s t : List UInt8) (w : World) (hP : FArg w q cap P) (hs : SrtP P) (hn : P.length ≤ 1000000) (hl : t.length ≤ 9223372036854775807) :
    Calls Try.prog 29 #[rdV R q P.length cap, .string (bstr s), .string (bstr t)] w fun e w' => RA w w' e R (rnA s t P).1 (rnA s t P).2 := by
  cases hi : isP s P with
  | false => simp only [rnA, hi, Bool.false_eq_true, if_false]; exact RRename_none R cap q P s t w hP hs hn hi
  | true =>
    cases hok : okN t with
    | false => simp only [rnA, hi, hok, if_true, Bool.false_eq_true, if_false]; exact RRename_arg R cap q P s t w hP hs hn hi hl (by rw [okN_eq, hok])
    | true => simp only [rnA, hi, hok, if_true]; exact RRename_ok R cap q P s t w hP hs hn hi hl (by rw [okN_eq, hok])
theorem Ren_all {d m fr N : Nat} {L : List Fl} (s t : List UInt8) (u : Nat) (w : World) (h : Dk w d m L fr N) (hl : s.length ≤ maxLen) (hfit : fr + tot L ≤ 9223372036854775807) (hN : N < maxLen) :
    Calls Try.prog 24 #[.pointer (some ⟨d, 0, none⟩), .string (bstr s), .string (bstr t)] w fun e w' => PA w w' e d m L fr N (rnA s t (Pu L)).1 (rnA s t (Pu L)).2 u := by
  cases e : lk s L with
  | none =>
    have hi : isP s (Pu L) = false := by rw [isP_Pu, e]; rfl
    simp only [rnA, hi, Bool.false_eq_true, if_false]
    refine (Rename_none s t w h hl e).mono ?_
    rintro e w' ⟨rfl, rfl⟩
    exact PA.same h _ _
  | some f =>
    have hi : isP s (Pu L) = true := by rw [isP_Pu, e]; rfl
    cases hok : okN t with
    | false =>
      simp only [rnA, hi, hok, if_true, Bool.false_eq_true, if_false]
      refine (Rename_arg s t w h hl e hok).mono ?_
      rintro e w' ⟨rfl, rfl⟩
      exact PA.same h _ _
    | true =>
      simp only [rnA, hi, hok, if_true]
      by_cases hst : s = t
      · subst hst
        rw [tie_ren_same h.srt e]
        refine (Rename_same s w h hl e).mono ?_
        rintro e w' ⟨rfl, rfl⟩
        exact PA.same h _ _
      · rw [tie_ren h.srt e]
        refine (Rename_ok s t w h hl e hst hok hfit hN).mono ?_
        rintro e' w' ⟨rfl, hS⟩
        have ht := tot_ren h.srt e hst
        exact ⟨rfl, _, _, hS, rfl, by omega, by omega⟩

end Go.Proofs.Ytbnenpfphbdmpaa
