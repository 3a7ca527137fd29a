/-
  The files of WalKnown's first log, as literal lists.
-/
import Derived.Test.YtpldfakfgngaaaaGreatDoorWEx3
namespace Go.Proofs.YtpldfakfgngaaaaGreatDoor
open Go.RowKit

theorem l_same (x b b' : List UInt8) (s s' : Nat) : wthP (x, b, s) [(x, b', s')] = [(x, b, s)] := by simp [wthP, lt_irr]
theorem l_behind {x y : List UInt8} (h : x < y) (b b' : List UInt8) (s s' : Nat) : wthP (y, b, s) [(x, b', s')] = [(x, b', s'), (y, b, s)] := by simp [wthP, h]
theorem l_gt (x b : List UInt8) (s : Nat) (r : List F3) : gtP x ((x, b, s) :: r) = b := gtP_some (f := (x, b, s)) (by simp [lkP])
theorem l_sy (x b : List UInt8) (s : Nat) (r : List F3) : syP x ((x, b, s) :: r) = s := by
  have : lkP x ((x, b, s) :: r) = some (x, b, s) := by simp [lkP]
  unfold syP
  rw [ofP_lk, this]
  rfl
theorem l_gt2 {x y : List UInt8} (h : x ≠ y) (b b' : List UInt8) (s s' : Nat) : gtP y [(x, b', s'), (y, b, s)] = b := gtP_some (f := (y, b, s)) (by
  have : (x == y) = false := by simpa using h
  simp [lkP, this])
theorem l_sy2 {x y : List UInt8} (h : x ≠ y) (b b' : List UInt8) (s s' : Nat) : syP y [(x, b', s'), (y, b, s)] = s := by
  have h1 : (x == y) = false := by simpa using h
  have : lkP y [(x, b', s'), (y, b, s)] = some (y, b, s) := by simp [lkP, h1]
  unfold syP
  rw [ofP_lk, this]
  rfl
theorem l_wto1 {x y : List UInt8} (h : x ≠ y) (b b' : List UInt8) (s s' : Nat) : wtoP x [(x, b', s'), (y, b, s)] = [(y, b, s)] := by
  have h1 : y ≠ x := fun e => h e.symm
  simp [wtoP, h1]
theorem l_wto0 {x y : List UInt8} (h : y ≠ x) (b : List UInt8) (s : Nat) : wtoP x [(y, b, s)] = [(y, b, s)] := by simp [wtoP, h]
theorem l_syG (p : List UInt8) (n : Nat) (q : List (List UInt8)) (b : List UInt8) (s : Nat) : syG p [(n, q)] [(nm p n, b, s)] = [(nm p n, b, b.length)] := by
  have e : syG p [(n, q)] [(nm p n, b, s)] = syW (nm p n) [(nm p n, b, s)] := rfl
  have e2 : (ofP (nm p n) [(nm p n, b, s)]).2.1 = b := l_gt (nm p n) b s []
  rw [e, syW, e2, l_same]
theorem nos_one {p : List UInt8} {n : Nat} (h : okNo n) (b : List UInt8) (s : Nat) : nos p [(nm p n, b, s)] = [n] := nos_wth_new (P := []) List.Pairwise.nil h (fun m hm => by simp [nos] at hm)
/-- A log of one file without records is opened as it is. -/
theorem op_one {p : List UInt8} {n : Nat} (h : okNo n) (s R : Nat) : opP p R [(nm p n, [], s)] = ([(nm p n, [], s)], [(n, [])], 0) := by
  have e1 : wtoP (sp p) [(nm p n, [], s)] = [(nm p n, [], s)] := l_wto0 (fun e => sp_alien p n h e.symm) [] s
  have e2 : gtP (nm p n) [(nm p n, [], s)] = [] := l_gt (nm p n) [] s []
  have e3 : scn' ([] : List UInt8) = [] := rfl
  unfold opP
  rw [e1, nos_one h, ldP_one (Or.inl rfl) (by rw [e1, e2]; simp [totP]), e1, e2, e3]
  rw [if_neg (by simp [totS])]
  unfold rcP
  rw [e2, e3]
theorem lg_one {p : List UInt8} {n : Nat} (h : okNo n) (s : Nat) : Lg p [(n, [])] [(nm p n, [], s)] :=
  ⟨by simp [SrtP], nos_one h [] s, fun x hx => by rw [List.mem_singleton.1 hx]; exact l_gt (nm p n) [] s [], fun x hx r hr => by rw [List.mem_singleton.1 hx] at hr; simp at hr, trivial⟩
theorem lg_none (p : List UInt8) : Lg p [] [] := (Ap.start p).lg

end Go.Proofs.YtpldfakfgngaaaaGreatDoor
