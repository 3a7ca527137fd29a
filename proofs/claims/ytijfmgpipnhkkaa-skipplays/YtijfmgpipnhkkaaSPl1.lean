/-
  SkipPlays: one step's parts, whatever the cell and the height are.
-/
import Derived.Test.YtijfmgpipnhkkaaSR7
namespace Go.Proofs.Ytijfmgpipnhkkaa
open Go.RowKit Go.BigFrame Go.Sort
attribute [local go_sem] size_bstr toList_bstr ls_def

/-- A step of the law. -/
structure Dst where
  c : Cl
  h : Int
  lv : Int
/-- Steps lie in a block, seven cells each. -/
def DRow (W : World) (b off : Nat) (ds : List Dst) : Prop := ∀ i (hi : i < ds.length), At5 W b (off + i * 7) ds[i].c ∧ W.cell? ⟨b, off + i * 7 + 5, none⟩ = some (.int .i64 ds[i].h) ∧ W.cell? ⟨b, off + i * 7 + 6, none⟩ = some (.int .i64 ds[i].lv)
/-- Whether a step is taken; what it makes of the document's list, and what it answers. -/
def okS (d : Dst) : Bool := mayCl d.c && decide (1 ≤ d.h) && decide (d.h ≤ 12)
def stL (d : Dst) (L : List (Cl × Nat)) : List (Cl × Nat) := if okS d then putH d.c d.h.toNat L else L
def stE (d : Dst) : Int := if okS d then 0 else 2
theorem okS_true {d : Dst} (h : okS d = true) : mayCl d.c = true ∧ 1 ≤ d.h ∧ d.h ≤ 12 := by
  simpa [okS, Bool.and_eq_true, and_assoc] using h
theorem okS_false {d : Dst} (h : okS d = false) : mayCl d.c = false ∨ d.h < 1 ∨ 12 < d.h := by
  unfold okS at h
  by_cases h1 : mayCl d.c = true
  · rw [h1] at h
    by_cases h2 : 1 ≤ d.h
    · by_cases h3 : d.h ≤ 12
      · simp [h2, h3] at h
      · exact .inr (.inr (by omega))
    · exact .inr (.inl (by omega))
  · exact .inl (by simpa using h1)
/-- The document's Put, taken or not. -/
theorem RPut_both (d : Dst) (L : List (Cl × Nat)) (qc : Option Addr) (gc cc : Nat) (qh : Option Addr) (gh ch : Nat) (w : World) (hD : DA w L qc gc cc qh gh ch) (hn : L.length ≤ 1000000) :
    Calls Try.prog 5 #[dV L qc cc qh ch, clV d.c, .int .i64 d.h] w fun e w' => ∃ qc' gc' cc' qh' gh' ch', e = .returned (.tuple #[dV (stL d L) qc' cc' qh' ch', .int .i64 (stE d)]) ∧ DA w' (stL d L) qc' gc' cc' qh' gh' ch' ∧ Below w.heap.size w w' ∧ (0 < (stL d L).length → (gc' = gc ∧ gh' = gh ∧ 0 < L.length) ∨ (w.heap.size ≤ gc' ∧ w.heap.size ≤ gh')) := by
  cases hk : okS d with
  | true =>
    obtain ⟨h1, h2, h3⟩ := okS_true hk
    obtain ⟨n, hh⟩ : ∃ n : Nat, d.h = (n : Int) := ⟨d.h.toNat, by omega⟩
    have e1 : stL d L = putH d.c n L := by unfold stL; rw [hk, if_pos rfl, hh, Int.toNat_natCast]
    have e2 : stE d = 0 := by unfold stE; rw [hk, if_pos rfl]
    rw [e1, e2, hh]
    refine (RPut_ok L qc gc cc qh gh ch d.c n w hD hn h1 (by omega) (by omega)).mono ?_
    intro e w' hP
    obtain ⟨qc', gc', cc', qh', gh', ch', rfl, hD', g1, g2⟩ := hP.ans
    exact ⟨qc', gc', cc', qh', gh', ch', rfl, hD', hP.be, fun _ => .inr ⟨g1, g2⟩⟩
  | false =>
    have e1 : stL d L = L := by unfold stL; rw [hk]; rfl
    have e2 : stE d = 2 := by unfold stE; rw [hk]; rfl
    rw [e1, e2]
    refine (RPut_arg L qc gc cc qh gh ch d.c d.h w (okS_false hk)).mono ?_
    rintro e w' ⟨rfl, hb⟩
    exact ⟨qc, gc, cc, qh, gh, ch, rfl, hD.below hb, hb, fun h => .inl ⟨rfl, rfl, h⟩⟩
/-- The program's Put, taken or not. -/
theorem Put_both (d : Dst) (l hd : Nat) (T : List Tw) (v : Value) (w : World) (hL : Ls w l hd T v []) (hlen : T.length < 4611686018427387904) :
    Calls Try.prog 6 #[.pointer (some ⟨l, 0, none⟩), clV d.c, .int .i64 d.h] w fun e w' => e = .returned (.int .i64 (stE d)) ∧ ∃ T' v', chT T' = stL d (chT T) ∧ T'.length ≤ T.length + 1 ∧ Ls w' l hd T' v' [] ∧ Kp w w' (Ow l hd T v) ∧ ∀ i, Ow l hd T' v' i → Ow l hd T v i ∨ w.heap.size ≤ i := by
  cases hk : okS d with
  | true =>
    obtain ⟨h1, h2, h3⟩ := okS_true hk
    obtain ⟨n, hh⟩ : ∃ n : Nat, d.h = (n : Int) := ⟨d.h.toNat, by omega⟩
    have e1 : stL d (chT T) = putH d.c n (chT T) := by unfold stL; rw [hk, if_pos rfl, hh, Int.toNat_natCast]
    have e2 : stE d = 0 := by unfold stE; rw [hk, if_pos rfl]
    rw [e1, e2, hh]
    refine (Put_fine l hd T v d.c n w hL h1 (by omega) (by omega) hlen).mono ?_
    rintro e w' ⟨rfl, T', hP, hL', hK⟩
    have hle := hP.length
    refine ⟨rfl, T', _, hP.both, by omega, hL', hK, fun i hi => hP.foot hi⟩
  | false =>
    have e1 : stL d (chT T) = chT T := by unfold stL; rw [hk]; rfl
    have e2 : stE d = 2 := by unfold stE; rw [hk]; rfl
    rw [e1, e2]
    have hc0 : w.cell? ⟨l, 0, none⟩ = some (.pointer (some ⟨hd, 0, none⟩)) := hL.blk.head
    refine (Put_arg l hd d.c d.h w hc0 (okS_false hk)).mono ?_
    rintro e w' ⟨rfl, hb⟩
    exact ⟨rfl, T, v, rfl, Nat.le_succ _, hL.below hb, Kp.of_below _ hb, fun i hi => .inl hi⟩

end Go.Proofs.Ytijfmgpipnhkkaa
