/-
  The law's own 'works' over disk.
-/
import Derived.Test.YtbnenpfphbdmpaaXCopy
namespace Go.Proofs.Ytbnenpfphbdmpaa
open Go.RowKit

/-- A disk that lies behind the block B; below B nothing has turned since w0. -/
structure Dw (B : Nat) (w0 w : World) (d m : Nat) (L : List Fl) (fr N : Nat) : Prop where
  dk : Dk w d m L fr N
  ge : ∀ i, Ft d m L i → B ≤ i
  bel : Below B w0 w
  hB : B ≤ w0.heap.size
theorem Dw.step {B : Nat} {w0 w w' : World} {d m : Nat} {L L' : List Fl} {fr N fr' N' : Nat} (h : Dw B w0 w d m L fr N) (hs : Stp w w' d m L L' fr' N') : Dw B w0 w' d m L' fr' N' :=
  ⟨hs.dk, fun i hi => by
    rcases hs.ft i hi with a | a
    · exact h.ge i a
    · exact Nat.le_trans h.hB (Nat.le_trans h.bel.size a), h.bel.trans (hs.kp.below (Nat.le_trans h.hB h.bel.size) h.ge), h.hB⟩
theorem Dw.on {B : Nat} {w0 w w' : World} {d m : Nat} {L : List Fl} {fr N : Nat} (h : Dw B w0 w d m L fr N) (hb : Below w.heap.size w w') : Dw B w0 w' d m L fr N :=
  ⟨h.dk.below hb, h.ge, b_step h.bel hb h.hB, h.hB⟩
theorem Dw.made {B : Nat} {w0 w w' : World} {d m fr N : Nat} {L : List Fl} (hB : B ≤ w0.heap.size) (h0 : Below B w0 w) (h : Dk w' d m L fr N) (hb : Below w.heap.size w w') (hft : ∀ i, Ft d m L i → w.heap.size ≤ i) : Dw B w0 w' d m L fr N :=
  ⟨h, fun i hi => Nat.le_trans (Nat.le_trans hB h0.size) (hft i hi), b_step h0 hb hB, hB⟩
theorem Cr.one {ks : List Int} {f : Fl} {L' : List Fl} (h : Cr ks 1 [f] L') : ∃ v', L' = [crF (kAt ks 0) f v'] := by
  obtain ⟨x, rfl⟩ := List.length_eq_one_iff.1 h.len
  obtain ⟨v', hv'⟩ := h.old 0 (by simp) (by simp)
  exact ⟨v', by simpa using hv'⟩
theorem karg_nil (w : World) (q : Option Addr) (S : Nat → Prop) : KArg w q [] S := fun h => absurd h (by simp)
theorem karg_one {w : World} {d m fr N : Nat} {L : List Fl} (h : Dk w d m L fr N) (x : Int) (t : TypeId) : KArg (w.alloc (.cells #[.int .i64 x] t)) (some ⟨w.heap.size, 0, none⟩) [x] (Ft d m L) := fun _ => by
  refine ⟨w.heap.size, 0, rfl, by simp, fun hi => Nat.lt_irrefl _ (h.lt hi), fun i hi => ?_⟩
  have : i = 0 := by simpa using hi
  subst this
  simp

set_option maxHeartbeats 4000000 in
set_option maxRecDepth 100000 in
theorem works_any (w : World) :
    Calls Try.prog 19 #[] w fun e w' => e = .returned (.bool true) ∧ Below w.heap.size w w' := by
  go_enter Try.func19, Try.ntmps19
  go_wp2_with fail
  refine (New_any 9 _).mono ?_
  rintro e w1 ⟨d, m, rfl, hD, hb, hft⟩
  have h1 : Dw w.heap.size w w1 d m [] 9 0 := Dw.made (Nat.le_refl _) (Below.refl _ _) hD hb hft
  clear hD hb hft
  go_wp2_with fail
  refine (Append_ok [97] [97, 98, 99] _ h1.dk (by decide) (by decide) (by decide) (by decide) (by decide)).mono ?_
  rintro e w2 ⟨rfl, f1, n1, b1, s1, hS⟩
  replace h1 := h1.step hS
  clear hS
  have e1 : wth f1 [] = [f1] := rfl
  rw [e1] at h1
  simp only [lk, List.find?_nil, by_, syN, List.nil_append] at b1 s1
  go_wp2_with fail
  refine (Sync_any [97] _ h1.dk (by decide)).mono ?_
  have e2 : lk [97] [f1] = some f1 := by simp [lk, n1]
  rw [e2]
  simp only [fc]
  rintro e w3 ⟨rfl, hS⟩
  replace h1 := h1.step hS
  clear hS
  have e3 : synL [97] [f1] = [{ f1 with syn := f1.bytes.length }] := by simp [synL, e2, wth, lt_irr]
  rw [e3] at h1
  generalize hf2 : ({ f1 with syn := f1.bytes.length } : Fl) = f2 at h1
  have n2 : f2.name = [97] := by rw [← hf2]; exact n1
  have b2 : f2.bytes = [97, 98, 99] := by rw [← hf2]; exact b1
  have s2 : f2.syn = 3 := by rw [← hf2]; show f1.bytes.length = 3; rw [b1]; rfl
  clear e1 e2 e3 hf2 n1 b1 s1
  go_wp2_with fail
  have t2 : tot [f2] = 3 := by simp [tot, b2]
  refine (Append_ok [97] [100, 101] _ h1.dk (by decide) (by decide) (by rw [t2]; decide) (by decide) (by decide)).mono ?_
  have e2 : lk [97] [f2] = some f2 := by simp [lk, n2]
  rw [e2]
  rintro e w4 ⟨rfl, f3, n3, b3, s3, hS⟩
  replace h1 := h1.step hS
  clear hS
  have e3 : wth f3 [f2] = [f3] := by simp [wth, n3, n2]
  rw [e3] at h1
  simp only [by_, syN, b2, s2] at b3 s3
  go_wp2_with fail
  have h5 := h1.on ((Below.refl w4.heap.size w4).alloc (Nat.le_refl _) (.cells #[.int .i64 1] 3))
  have t3 : tot [f3] = 5 := by simp [tot, b3]
  refine (Crash_any (some ⟨w4.heap.size, 0, none⟩) 1 [1] _ h5.dk (by decide) (karg_one h1.dk 1 _) (by rw [t3]; decide) (by rw [t3]; decide)).mono ?_
  rintro e w5 ⟨rfl, L', fr', hC, hsum, hS⟩
  replace h5 := h5.step hS
  clear hS h1
  obtain ⟨v', eL⟩ := hC.one
  have ek : kAt [1] 0 = 1 := rfl
  rw [ek] at eL
  have n5 : (crF 1 f3 v').name = [97] := n3
  have k5 : kn 1 (f3.bytes.length - f3.syn) = 1 := by rw [b3, s3]; decide
  have b5 : (crF 1 f3 v').bytes = [97, 98, 99, 100] := by show f3.bytes.take (f3.syn + kn 1 (f3.bytes.length - f3.syn)) = _; rw [k5, s3, b3]; rfl
  have s5 : (crF 1 f3 v').syn = 4 := by show f3.syn + kn 1 (f3.bytes.length - f3.syn) = 4; rw [k5, s3]
  generalize crF 1 f3 v' = f5 at *
  subst eL
  have e5 : lk [97] [f5] = some f5 := by simp [lk, n5]
  have t5 : tot [f5] = 4 := by simp [tot, b5]
  have hfr : fr' = 5 := by
    rw [t5, t3] at hsum
    have : (9 - ([97, 98, 99] : List UInt8).length - ([100, 101] : List UInt8).length : Nat) = 4 := by decide
    omega
  subst hfr
  go_wp2_with fail
  refine (Read_any [97] _ h5.dk (by decide)).mono ?_
  rw [e5]
  simp only [by_, fc, b5]
  have hz : ((bstr [97, 98, 99, 100]).toList == [97, 98, 99, 100]) = true := by rw [toList_bstr]; decide
  rintro e w6 ⟨rfl, rfl⟩
  go_wp2_with fail
  refine (Synced_any [97] _ h5.dk (by decide)).mono ?_
  rw [e5]
  simp only [sy, s5]
  rintro e w6 ⟨rfl, rfl⟩
  go_wp2_with fail
  refine (Free_any _ h5.dk).mono ?_
  rintro e w6 ⟨rfl, rfl⟩
  go_wp2
  go_ret
  exact ⟨rfl, h5.bel⟩

end Go.Proofs.Ytbnenpfphbdmpaa
