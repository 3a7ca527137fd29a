/-
  What a step makes of a disk, whatever it answers; steps in memory.
-/
import Derived.Test.YtbnenpfphbdmpaaXKp
namespace Go.Proofs.Ytbnenpfphbdmpaa
open Go.RowKit

structure Rs (w w' : World) (d m : Nat) (L : List Fl) (fr N t : Nat) (x : Int) (L' : List Fl) (fr' : Nat) : Prop where
  stp : Stp w w' d m L L' fr' (N + 1)
  sum : fr' + tot L' = fr + tot L
  le : tot L' ≤ tot L + t
  ref : x ≠ 0 → L' = L ∧ fr' = fr
theorem Rs.same {w : World} {d m fr N : Nat} {L : List Fl} (h : Dk w d m L fr N) (t : Nat) (x : Int) : Rs w w d m L fr N t x L fr := ⟨⟨h.mono (Nat.le_succ _), Kp.refl _ _, fun _ h => Or.inl h⟩, rfl, Nat.le_add_right _ _, fun _ => ⟨rfl, rfl⟩⟩
theorem tot_app {L : List Fl} (h : Srt L) {f' : Fl} {s t : List UInt8} (a1 : f'.name = s) (a2 : f'.bytes = by_ (lk s L) ++ t) : tot (wth f' L) = tot L + t.length := by
  cases e : lk s L with
  | none =>
    rw [e] at a2
    rw [tot_wth_new h (by rw [a1]; exact e), a2]; rfl
  | some o =>
    rw [e] at a2
    have := tot_wth_old (f := f') (o := o) h (by rw [a1]; exact e)
    rw [a2] at this
    simp only [by_, List.length_append] at this
    omega

theorem App_r {d m fr N : Nat} {L : List Fl} (s t : List UInt8) (w : World) (h : Dk w d m L fr N) (hfit : fr + tot L ≤ 9223372036854775807) (hb : tot L + t.length ≤ 140737488355328) (hN : N < maxLen) :
    Calls Try.prog 20 #[.pointer (some ⟨d, 0, none⟩), .string (bstr s), .string (bstr t)] w fun e w' => ∃ x L' fr', e = .returned (.int .i64 x) ∧ Rs w w' d m L fr N t.length x L' fr' := by
  cases hok : okN s with
  | false =>
    refine (Append_arg s t w h hok).mono ?_
    rintro e w' ⟨rfl, rfl⟩
    exact ⟨2, L, fr, rfl, Rs.same h _ _⟩
  | true =>
    by_cases hf : fr < t.length
    · refine (Append_full s t w h hok hf).mono ?_
      rintro e w' ⟨rfl, rfl⟩
      exact ⟨7, L, fr, rfl, Rs.same h _ _⟩
    · refine (Append_ok s t w h hok (by omega) hb (by omega) hN).mono ?_
      rintro e w' ⟨rfl, f', n1, b1, s1, hS⟩
      have ht := tot_app h.srt n1 b1
      exact ⟨0, _, _, rfl, hS, by omega, by omega, fun h => absurd rfl h⟩

theorem Syn_r {d m fr N : Nat} {L : List Fl} (s : List UInt8) (t : Nat) (w : World) (h : Dk w d m L fr N) (hl : s.length ≤ maxLen) :
    Calls Try.prog 21 #[.pointer (some ⟨d, 0, none⟩), .string (bstr s)] w fun e w' => ∃ x L' fr', e = .returned (.int .i64 x) ∧ Rs w w' d m L fr N t x L' fr' := by
  refine (Sync_any s w h hl).mono ?_
  rintro e w' ⟨rfl, hS⟩
  have ht : tot (synL s L) = tot L := by
    unfold synL
    cases e : lk s L with
    | none => rfl
    | some f =>
      obtain ⟨_, rfl⟩ := lk_some e
      have := tot_wth_old (f := { f with syn := f.bytes.length }) (o := f) h.srt e
      have h2 : ({ f with syn := f.bytes.length } : Fl).bytes.length = f.bytes.length := rfl
      simp only
      omega
  refine ⟨_, _, _, rfl, ⟨hS.dk.mono (Nat.le_succ _), hS.kp, hS.ft⟩, by rw [ht], by omega, fun hx => ⟨?_, rfl⟩⟩
  cases e : lk s L with
  | none => simp [synL, e]
  | some f => rw [e] at hx; exact absurd rfl hx

theorem Rem_r {d m fr N : Nat} {L : List Fl} (s : List UInt8) (t : Nat) (w : World) (h : Dk w d m L fr N) (hl : s.length ≤ maxLen) (hfit : fr + tot L ≤ 9223372036854775807) :
    Calls Try.prog 25 #[.pointer (some ⟨d, 0, none⟩), .string (bstr s)] w fun e w' => ∃ x L' fr', e = .returned (.int .i64 x) ∧ Rs w w' d m L fr N t x L' fr' := by
  refine (Remove_any s w h hl hfit).mono ?_
  rintro e w' ⟨rfl, hS⟩
  have hs : tot (wto s L) + (by_ (lk s L)).length = tot L := by
    cases e : lk s L with
    | none => rw [wto_none e]; rfl
    | some f => exact tot_wto h.srt e
  refine ⟨_, _, _, rfl, ⟨hS.dk.mono (Nat.le_succ _), hS.kp, hS.ft⟩, by omega, by omega, fun hx => ?_⟩
  cases e : lk s L with
  | none => exact ⟨wto_none e, by simp [by_]⟩
  | some f => rw [e] at hx; exact absurd rfl hx

theorem tot_ren {L : List Fl} (h : Srt L) {f : Fl} {s t : List UInt8} (e : lk s L = some f) (hst : s ≠ t) : tot (wth { f with name := t } (wto s (wto t L))) + (by_ (lk t L)).length = tot L := by
  have hs1 : Srt (wto t L) := wto_srt h
  have a1 : tot (wto t L) + (by_ (lk t L)).length = tot L := by
    cases e2 : lk t L with
    | none => rw [wto_none e2]; rfl
    | some g => exact tot_wto h e2
  have a2 := tot_wto hs1 (by rw [lk_wto_other h hst]; exact e)
  have a3 := tot_wth_new (f := { f with name := t }) (wto_srt hs1 (s := s)) (lk_eq_none fun x hx => (wto_mem.1 (wto_mem.1 hx).1).2)
  have a4 : ({ f with name := t } : Fl).bytes.length = f.bytes.length := rfl
  omega

theorem Ren_r {d m fr N : Nat} {L : List Fl} (s t : List UInt8) (w : World) (h : Dk w d m L fr N) (hl : s.length ≤ maxLen) (hfit : fr + tot L ≤ 9223372036854775807) (hN : N < maxLen) :
    Calls Try.prog 24 #[.pointer (some ⟨d, 0, none⟩), .string (bstr s), .string (bstr t)] w fun e w' => ∃ x L' fr', e = .returned (.int .i64 x) ∧ Rs w w' d m L fr N t.length x L' fr' := by
  cases e : lk s L with
  | none =>
    refine (Rename_none s t w h hl e).mono ?_
    rintro e w' ⟨rfl, rfl⟩
    exact ⟨5, L, fr, rfl, Rs.same h _ _⟩
  | some f =>
    cases hok : okN t with
    | false =>
      refine (Rename_arg s t w h hl e hok).mono ?_
      rintro e w' ⟨rfl, rfl⟩
      exact ⟨2, L, fr, rfl, Rs.same h _ _⟩
    | true =>
      by_cases hst : s = t
      · subst hst
        refine (Rename_same s w h hl e).mono ?_
        rintro e w' ⟨rfl, rfl⟩
        exact ⟨0, L, fr, rfl, Rs.same h _ _⟩
      · refine (Rename_ok s t w h hl e hst hok hfit hN).mono ?_
        rintro e' w' ⟨rfl, hS⟩
        have ht := tot_ren h.srt e hst
        exact ⟨0, _, _, rfl, hS, by omega, by omega, fun h => absurd rfl h⟩

/-- A step, as the law has it. -/
structure DoV where
  kind : Int
  name : List UInt8
  data : List UInt8
  kq : Option Addr
  kc : Nat
  keep : List Int
/-- Numbers that lie below the block B. -/
def IAt (w : World) (B : Nat) (q : Option Addr) (ks : List Int) : Prop := 0 < ks.length → ∃ b off, q = some ⟨b, off, none⟩ ∧ b < B ∧ ∀ i (h : i < ks.length), w.cell? ⟨b, off + i, none⟩ = some (.int .i64 ks[i])
/-- A step at a place. -/
structure At4 (w : World) (b o : Nat) (x : DoV) : Prop where
  c0 : w.cell? ⟨b, o, none⟩ = some (.int .i64 x.kind)
  c1 : w.cell? ⟨b, o + 1, none⟩ = some (.string (bstr x.name))
  c2 : w.cell? ⟨b, o + 2, none⟩ = some (.string (bstr x.data))
  c3 : w.cell? ⟨b, o + 3, none⟩ = some (.slice x.kq x.keep.length x.kc)
theorem At4.block {w w' : World} {b o : Nat} {x : DoV} (h : At4 w b o x) (hb : w'.heap[b]? = w.heap[b]?) : At4 w' b o x :=
  ⟨(World.cell?_of_block (a := ⟨b, o, none⟩) hb).trans h.c0, (World.cell?_of_block (a := ⟨b, o + 1, none⟩) hb).trans h.c1, (World.cell?_of_block (a := ⟨b, o + 2, none⟩) hb).trans h.c2, (World.cell?_of_block (a := ⟨b, o + 3, none⟩) hb).trans h.c3⟩
/-- A list of steps, as an argument: it lies below the block B. -/
def DArg (w : World) (B : Nat) (q : Option Addr) (xs : List DoV) : Prop := 0 < xs.length → ∃ b off, q = some ⟨b, off, none⟩ ∧ b < B ∧ ∀ i (h : i < xs.length), At4 w b (off + i * 4) xs[i] ∧ IAt w B xs[i].kq xs[i].keep
def dsm (xs : List DoV) (i : Nat) : Nat := ((xs.take i).map (fun x => x.data.length)).sum
theorem dsm_succ {xs : List DoV} {i : Nat} (h : i < xs.length) : dsm xs (i + 1) = dsm xs i + xs[i].data.length := by
  unfold dsm
  rw [List.take_succ_eq_append_getElem h, List.map_append, List.sum_append]
  rfl
theorem dsm_le (xs : List DoV) (i : Nat) : dsm xs i ≤ (xs.map (fun x => x.data.length)).sum := by
  unfold dsm
  conv => rhs; rw [← List.take_append_drop i xs]
  rw [List.map_append, List.sum_append]
  omega

end Go.Proofs.Ytbnenpfphbdmpaa
