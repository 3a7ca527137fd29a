/-
  The law's own 'works', and when two lists are the same.
-/
import Derived.Test.YtnpjbdbhjbccbaaCNew
import Derived.Test.YtnpjbdbhjbccbaaCEnc
import Derived.Test.YtnpjbdbhjbccbaaCW0
namespace Go.Proofs.Ytnpjbdbhjbccbaa
open Go.RowKit Go.BigFrame Go.Sort
attribute [local go_sem] size_bstr toList_bstr ls_def
attribute [local go_sem high] cell_eql5 cell_neq5 cell_guard

set_option maxHeartbeats 2000000 in
set_option maxRecDepth 100000 in
theorem Same_any (q q' : Option Addr) (b off cap b' off' cap' : Nat) (cs : List Cl) (w : World) (hq : 0 < cs.length → q = some ⟨b, off, none⟩ ∧ CRow w b off cs) (hq' : 0 < cs.length → q' = some ⟨b', off', none⟩ ∧ CRow w b' off' cs) (hn : cs.length ≤ 4611686018427387904) :
    Calls Try.prog 22 #[.slice q cs.length cap, .slice q' cs.length cap'] w fun e w' => e = .returned (.bool true) ∧ RowKit.Below w.heap.size w w' := by
  go_enter Try.func22, Try.ntmps22
  go_wp2
  go_loopw [5] (fun s5 wr => ∃ i : Nat, s5 = .int .i64 (i : Int) ∧ i ≤ cs.length ∧ RowKit.Below w.heap.size w wr) (fun s5 _ => cs.length - (intOf s5).toNat)
  case atStart => exact ⟨0, rfl, by omega, RowKit.Below.refl _ _⟩
  case round =>
    obtain ⟨i, rfl, hil, hbel⟩ := hrel
    by_cases hlt : i < cs.length
    · obtain ⟨rfl, hR⟩ := hq (by omega)
      obtain ⟨rfl, hR'⟩ := hq' (by omega)
      obtain ⟨c0, c1, c2, c3, c4⟩ := (hR i hlt).step hbel (hR i hlt).lt
      obtain ⟨d0, d1, d2, d3, d4⟩ := (hR' i hlt).step hbel (hR' i hlt).lt
      have heq := eqC_self cs[i]
      have hiz : (i : Int) < (cs.length : Int) := by omega
      clear hR hR'
      generalize cs[i] = c at *
      obtain ⟨r, k, v, z, x⟩ := c
      simp only at c0 c1 c2 c3 c4 d0 d1 d2 d3 d4
      go_wp2_with fail
      go_quiet (fail)
      have hbe := below_drewN hbel nq
      clear c0 c1 c2 c3 c4 d0 d1 d2 d3 d4
      go_wp2
      go_roundw
      case rel => exact ⟨i + 1, by go_num, by omega, hbe⟩
      case measure => simp [intOf]; omega
    · have hie : i = cs.length := by omega
      subst hie
      go_wp2
      go_ret
      exact ⟨rfl, hbel⟩

/-- A row of cells that has just been laid. -/
def wk4 : List Cl := [xc [98] 1 false, xc [97] 1 false, xc [97] 2 false, xc [97] 2 true]
def wk2 : List Cl := [xc [97] 2 false, xc [98] 1 false]
def wk1 : List Cl := [⟨[97], [120], 1, false, [118]⟩]
theorem wk_sort : sortL wk4 = wk3 := by rfl
theorem wk_new : newL wk4 = wk2 := by rfl
theorem uv1 : Lib.uvarint 1 = [1] := Lib.uvarint_small (by omega)
theorem wk_enc : encB wk1 = [1, 1, 97, 1, 120, 1, 0, 1, 118] := by
  have h : encL wk1 = [1, 1, 97, 1, 120, 1, 0, 1, 118] := by simp [encL, bodyL, layL, txt, wk1, uv1]
  unfold encB
  rw [if_pos (by decide), h, if_pos (by decide)]
theorem wk_encE : encE wk1 = 0 := by
  have h : encL wk1 = [1, 1, 97, 1, 120, 1, 0, 1, 118] := by simp [encL, bodyL, layL, txt, wk1, uv1]
  unfold encE
  rw [if_pos (by decide), h, if_pos (by decide)]
theorem wk_fits : ∀ c ∈ wk4, Fits c := by
  intro c hc
  simp [wk4, xc] at hc
  rcases hc with rfl | rfl | rfl | rfl <;> simp [Fits]

end Go.Proofs.Ytnpjbdbhjbccbaa
