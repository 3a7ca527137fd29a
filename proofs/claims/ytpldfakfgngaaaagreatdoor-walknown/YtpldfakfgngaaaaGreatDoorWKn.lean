/-
  WalKnown's first log: its states behind each append; what its disk tells.
-/
import Derived.Test.YtpldfakfgngaaaaGreatDoorWKnM
import Derived.Test.YtpldfakfgngaaaaGreatDoorWAny
import Derived.Test.YtpldfakfgngaaaaGreatDoorMade
namespace Go.Proofs.YtpldfakfgngaaaaGreatDoor
open Go.RowKit
attribute [local go_sem] size_bstr toList_bstr append_bstr

def kG : Nat → WF
  | 0 => []
  | 1 => [(1, [[97]])]
  | 2 => [(1, [[97], [98]])]
  | 3 => [(1, [[97], [98], [99]])]
  | _ => [(1, [[97], [98], [99]]), (4, [[100]])]
def kP (p : List UInt8) : Nat → List F3
  | 0 => []
  | 1 => [(nm p 1, frm [97], 0)]
  | 2 => [(nm p 1, frm [97] ++ frm [98], 0)]
  | 3 => [(nm p 1, frm [97] ++ frm [98] ++ frm [99], 0)]
  | _ => [(nm p 1, frm [97] ++ frm [98] ++ frm [99], (frm [97] ++ frm [98] ++ frm [99]).length), (nm p 4, frm [100], 0)]
def kS : Nat → List UInt8
  | 0 => [97]
  | 1 => [98]
  | 2 => [99]
  | _ => [100]
theorem Ex.as {B : Nat} {w : World} {m : Nat} {k : Wk} {G G' : WF} {P P' : List F3} {R N N' : Nat} (h : Ex B w m k G P R N) (hG : G = G') (hP : P = P') (hN : N ≤ N') : Ex B w m k G' P' R N' := by
  subst hG hP
  obtain ⟨L, fe, F, v, a1, a2, a3, a4⟩ := h.go
  exact ⟨⟨L, fe, F, v, ⟨a1.dk.mono hN, a1.wm, a1.geD, a1.geW, a1.vw⟩, a2, a3, a4⟩, h.lg, h.pl⟩
theorem n14 (p : List UInt8) : nm p 1 < nm p 4 := (nm_lt p (by decide) (by decide)).2 (by decide)
theorem n14ne (p : List UInt8) : nm p 1 ≠ nm p 4 := lt_ne (n14 p)
theorem tot1 (x b : List UInt8) (s : Nat) : totP [(x, b, s)] = b.length := by simp [totP]
/-- One append of the four. -/
theorem kApp {B : Nat} {w : World} {m : Nat} {k : Wk} {i : Nat} (hi : i < 4) (hm : k.most = 20) (h : Ex B w m k (kG i) (kP k.p i) 1000 (30 + 2 * i)) :
    Calls Tryz.prog 13 #[.pointer (some ⟨k.g, 0, none⟩), .string (bstr (kS i))] w fun e w' => e = .returned (.int .i64 0) ∧ Ex B w' m k (kG (i + 1)) (kP k.p (i + 1)) 1000 (30 + 2 * (i + 1)) ∧ Below B w w' := by
  have la := frm_length [97]
  have lb := frm_length [98]
  have lc := frm_length [99]
  simp only [List.length_cons, List.length_nil] at la lb lc
  match i, hi with
  | 0, _ =>
    refine (AppNew_ex [97] h (by decide) (by decide) (by simp [kP, totP]) (by decide) (by decide) (by decide) (fun A x e => by simp [kG] at e)).mono ?_
    rintro e w' ⟨rfl, hE, hb⟩
    exact ⟨rfl, hE.as rfl rfl (by omega), hb⟩
  | 1, _ =>
    refine (AppOld_ex (A := []) [98] h (by decide) (by decide) (by show totP [(nm k.p 1, frm [97], 0)] + _ ≤ _; rw [tot1, la]; decide) (by decide) (by rw [hm]; decide)).mono ?_
    rintro e w' ⟨rfl, hE, hb⟩
    refine ⟨rfl, hE.as rfl ?_ (by omega), hb⟩
    show wthP (nm k.p 1, gtP (nm k.p 1) [(nm k.p 1, frm [97], 0)] ++ frm [98], syP (nm k.p 1) [(nm k.p 1, frm [97], 0)]) [(nm k.p 1, frm [97], 0)] = [(nm k.p 1, frm [97] ++ frm [98], 0)]
    rw [l_gt, l_sy, l_same]
  | 2, _ =>
    refine (AppOld_ex (A := []) [99] h (by decide) (by decide) (by show totP [(nm k.p 1, frm [97] ++ frm [98], 0)] + _ ≤ _; rw [tot1, List.length_append, la, lb]; decide) (by decide) (by rw [hm]; decide)).mono ?_
    rintro e w' ⟨rfl, hE, hb⟩
    refine ⟨rfl, hE.as rfl ?_ (by omega), hb⟩
    show wthP (nm k.p 1, gtP (nm k.p 1) [(nm k.p 1, frm [97] ++ frm [98], 0)] ++ frm [99], syP (nm k.p 1) [(nm k.p 1, frm [97] ++ frm [98], 0)]) [(nm k.p 1, frm [97] ++ frm [98], 0)] = [(nm k.p 1, frm [97] ++ frm [98] ++ frm [99], 0)]
    rw [l_gt, l_sy, l_same]
  | 3, _ =>
    refine (AppNew_ex [100] h (by decide) (by decide) (by show totP [(nm k.p 1, frm [97] ++ frm [98] ++ frm [99], 0)] + _ ≤ _; rw [tot1, List.length_append, List.length_append, la, lb, lc]; decide) (by decide) (by decide) (by decide) (fun A x e => by
      have e2 : A ++ [x] = [] ++ [(1, [[97], [98], [99]])] := e.symm
      obtain ⟨_, e3⟩ := List.append_inj' e2 rfl
      cases e3
      rw [hm]
      exact ⟨by decide, by simp⟩)).mono ?_
    rintro e w' ⟨rfl, hE, hb⟩
    refine ⟨rfl, hE.as rfl ?_ (by omega), hb⟩
    show wthP (nm k.p 4, frm [100], 0) (syG k.p [(1, [[97], [98], [99]])] [(nm k.p 1, frm [97] ++ frm [98] ++ frm [99], 0)]) = [(nm k.p 1, frm [97] ++ frm [98] ++ frm [99], (frm [97] ++ frm [98] ++ frm [99]).length), (nm k.p 4, frm [100], 0)]
    rw [l_syG, l_behind (n14 k.p)]

theorem First_v {B : Nat} {w : World} {m : Nat} {k : Wk} {G : WF} {P : List F3} {R N : Nat} (n : Nat) (h : Ex B w m k G P R N) (hn : fstF G = n) :
    Calls Tryz.prog 26 #[.pointer (some ⟨k.g, 0, none⟩)] w fun e w' => e = .returned (.int .u64 (n : Int)) ∧ w' = w := by
  have := First_ex h
  rw [hn] at this
  exact this
theorem Next_v {B : Nat} {w : World} {m : Nat} {k : Wk} {G : WF} {P : List F3} {R N : Nat} (n : Nat) (h : Ex B w m k G P R N) (hN : N ≤ 100000) (hn : nxtF G = n) (hx : n ≤ 1000000) :
    Calls Tryz.prog 28 #[.pointer (some ⟨k.g, 0, none⟩)] w fun e w' => e = .returned (.int .u64 (n : Int)) ∧ Below w.heap.size w w' := by
  have := Next_ex h hN (by omega)
  rw [hn] at this
  exact this
theorem Read_ex {B : Nat} {w : World} {m : Nat} {k : Wk} {G : WF} {P : List F3} {R N : Nat} (s b : List UInt8) (h : Ex B w m k G P R N) (hs : s.length ≤ 100) (hb : gtP s P = b) :
    Calls Tryz.prog 33 #[.pointer (some ⟨k.d, 0, none⟩), .string (bstr s)] w fun e w' => ∃ c : Int, e = .returned (.tuple #[.string (bstr b), .int .i64 c]) ∧ w' = w := by
  obtain ⟨L, fe, D, rfl, hR⟩ := h.db
  refine (Read_db s D hs).mono ?_
  rintro e w' ⟨rfl, rfl⟩
  rw [hb]
  exact ⟨_, rfl, rfl⟩
theorem Synced_ex {B : Nat} {w : World} {m : Nat} {k : Wk} {G : WF} {P : List F3} {R N : Nat} (s : List UInt8) (n : Nat) (h : Ex B w m k G P R N) (hs : s.length ≤ 100) (hb : syP s P = n) :
    Calls Tryz.prog 34 #[.pointer (some ⟨k.d, 0, none⟩), .string (bstr s)] w fun e w' => e = .returned (.int .i64 (n : Int)) ∧ w' = w := by
  obtain ⟨L, fe, D, rfl, hR⟩ := h.db
  refine (Synced_any s w D.dk (by unfold maxLen; omega)).mono ?_
  rintro e w' ⟨rfl, rfl⟩
  have e2 : sy (lk s L) = (syP s (Pu L) : Int) := by
    have e3 : lkP s (Pu L) = (lk s L).map pu := find_Pu s L
    unfold syP
    rw [ofP_lk, e3]
    cases lk s L <;> rfl
  rw [e2, hb]
  exact ⟨rfl, rfl⟩

end Go.Proofs.YtpldfakfgngaaaaGreatDoor
