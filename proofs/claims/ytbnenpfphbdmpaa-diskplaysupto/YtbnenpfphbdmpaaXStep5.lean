/-
  A step of the law, of whatever kind.
-/
import Derived.Test.YtbnenpfphbdmpaaXStep4
namespace Go.Proofs.Ytbnenpfphbdmpaa
open Go.RowKit

theorem tmod7 (k : Int) : -7 < k.tmod 7 ∧ k.tmod 7 < 7 := by
  rw [Int.tmod_eq_emod]
  have : (7 : Int).natAbs = 7 := rfl
  split <;> omega
theorem kind7 (k : Int) : (k.tmod 7 + 7).tmod 7 = 0 ∨ (k.tmod 7 + 7).tmod 7 = 1 ∨ (k.tmod 7 + 7).tmod 7 = 2 ∨ (k.tmod 7 + 7).tmod 7 = 3 ∨ (k.tmod 7 + 7).tmod 7 = 4 ∨ (k.tmod 7 + 7).tmod 7 = 5 ∨ (k.tmod 7 + 7).tmod 7 = 6 := by
  have h := tmod7 k
  rw [Int.tmod_eq_emod_of_nonneg (a := k.tmod 7 + 7) (by omega)]
  omega
theorem step_any {B : Nat} {w0 w : World} {d m : Nat} {L : List Fl} {fr N R : Nat} {q : Option Addr} {cap : Nat} (x : DoV) (hS : St B w0 w d m L fr N R q cap)
    (hI : IAt w0 B x.kq x.keep) (hkl : x.keep.length ≤ 1048576) (hn1 : x.name.length ≤ 1048576) (hL : tot L + x.data.length ≤ 1048576) (hR : R ≤ 9223372036854775807) (hN : N ≤ 1000) :
    Calls Try.prog 10 #[.pointer (some ⟨d, 0, none⟩), rdV R q (Pu L).length cap, .agg #[.int .i64 x.kind, .string (bstr x.name), .string (bstr x.data), .slice x.kq x.keep.length x.kc]] w fun e w' => StepPost B w0 w d m L N R (tot L + x.data.length) e w' := by
  obtain ⟨h1, h2⟩ := tmod7 x.kind
  rcases kind7 x.kind with h | h | h | h | h | h | h
  · exact step_app x.kind x.name x.data x.kq x.keep.length x.kc hS h h1 h2 hn1 hL hR hN
  · exact step_syn x.kind x.name x.data x.kq x.keep.length x.kc hS h h1 h2 hn1 hL hR hN
  · exact step_read x.kind x.name x.data x.kq x.keep.length x.kc hS h h1 h2 hn1 hN
  · exact step_ren x.kind x.name x.data x.kq x.keep.length x.kc hS h h1 h2 hn1 hL hR hN
  · exact step_rem x.kind x.name x.data x.kq x.keep.length x.kc hS h h1 h2 hn1 hL hR hN
  · exact step_crash x.kind x.name x.data x.kq x.keep x.kc hS h h1 h2 hI hkl hL hR hN
  · exact step_copy x.kind x.name x.data x.kq x.keep.length x.kc hS h h1 h2 hn1 hL hR hN

end Go.Proofs.Ytbnenpfphbdmpaa
