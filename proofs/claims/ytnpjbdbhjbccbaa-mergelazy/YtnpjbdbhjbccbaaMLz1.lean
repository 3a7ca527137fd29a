/-
  The law MergeLazy: its rows; List of none.
-/
import Derived.Test.YtnpjbdbhjbccbaaMAhd
import Derived.Test.YtnpjbdbhjbccbaaGMam
namespace Go.Proofs.Ytnpjbdbhjbccbaa
open Go.RowKit Go.BigFrame Go.Sort
attribute [local go_sem] size_bstr toList_bstr ls_def

/-- A row that counts, as it is handed to All. -/
def cIn (nb sb pb va la : Nat) (cs : List Cl) : InR := ⟨.func (.func 52) #[] #[.pointer (some ⟨nb, 0, none⟩), .pointer (some ⟨sb, 0, none⟩)], CntF nb sb pb va la cs, cs, CntJ nb sb pb va la cs⟩
theorem cIn_row {nb sb pb va la : Nat} {cs : List Cl} {w : World} (hN : CntN nb sb pb va la cs) (hf : ∀ c ∈ cs, Fits c) (h : CntJ nb sb pb va la cs 0 w) : RowW (cIn nb sb pb va la cs) w := Or.inr ⟨_, _, rfl, cnt_tlr hN hf, h⟩
set_option maxHeartbeats 2000000 in
theorem List_zero (g : Nat) (caps : Array Value) (w : World) :
    Calls Try.prog 21 #[.func (.func g) #[] caps, .int .i64 0] w fun e w' => ∃ v, e = .returned v ∧ w'.ownsRow w.heap.size 39 5 v 0 [] ∧ Below w.heap.size w w' := by
  have hE1 := fun g caps w => fn_eql g caps w
  go_enter Try.func21, Try.ntmps21
  go_wp2
  refine wp_loop_rounds 1 ?_
  rw [rounds_succ]
  go_wp2
  go_ret
  exact ⟨_, rfl, ⟨rfl, .inl ⟨rfl, rfl⟩⟩, Below.refl _ _⟩
end Go.Proofs.Ytnpjbdbhjbccbaa
