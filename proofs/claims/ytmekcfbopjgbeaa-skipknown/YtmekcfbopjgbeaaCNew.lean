/-
  The contracts of cells.Sort and cells.Newest.
-/
import Derived.Test.YtmekcfbopjgbeaaCSort
namespace Go.Proofs.Ytmekcfbopjgbeaa
open Go.RowKit Go.BigFrame Go.Sort
attribute [local go_sem] size_bstr toList_bstr ls_def

set_option maxHeartbeats 1000000 in
set_option maxRecDepth 100000 in
theorem sort1_any (a b : Cl) (w : World) : Calls Try.prog 43 #[clV a, clV b] w fun e w' => e = .returned (.bool (eqv a b)) ∧ RowKit.Below w.heap.size w w' := by
  have hcon := fun W => Cmp_any a.row a.col a.ver a.gone a.val b.row b.col b.ver b.gone b.val W
  have hev : eqv a b = (ccl a b == 0) := by unfold eqv; cases hd : (ccl a b == 0) <;> simp_all
  rw [hev]
  unfold ccl
  generalize cc a.row a.col a.ver b.row b.col b.ver = d at *
  clear hev
  obtain ⟨r, k, v, z, x⟩ := a
  obtain ⟨r', k', v', z', x'⟩ := b
  simp only at hcon
  have hB2 : RowKit.Below w.heap.size w ((w.alloc (.cells #[.string (bstr r), .string (bstr k), .int .u64 v, .bool z, .string (bstr x)] 34)).alloc (.cells #[.string (bstr r'), .string (bstr k'), .int .u64 v', .bool z', .string (bstr x')] 34)) := ((RowKit.Below.refl _ _).alloc (Nat.le_refl _) _).alloc (by simp) _
  go_enter Try.func43, Try.ntmps43
  go_wp2_with fail
  refine (hcon _).mono ?_
  rintro e w1 ⟨rfl, hb1⟩
  replace hB2 := below2 hB2 hb1
  clear hb1 hcon
  go_wp2
  go_ret
  exact ⟨rfl, hB2⟩

set_option maxHeartbeats 1000000 in
set_option maxRecDepth 100000 in
theorem Sort_any (q : Option Addr) (b off cap : Nat) (cs : List Cl) (w : World) (hq : 0 < cs.length → q = some ⟨b, off, none⟩ ∧ CRow w b off cs ∧ b < w.heap.size) (hf : ∀ c ∈ cs, Fits c) (hn : cs.length * 64 ≤ 140737488351232) :
    Calls Try.prog 21 #[.slice q cs.length cap] w fun e w' => ∃ v, e = .returned v ∧ w'.ownsRow w.heap.size 34 5 v (sortL cs).length (ccells (sortL cs)) ∧ RowKit.Below w.heap.size w w' := by
  have eF : ∀ args w, (callFunc 43 args).run Try.prog w = .ok (.enter 43 args) w := enters_of Try.func43 (by kernel_rfl) rfl
  have hcon := firsts_any 43 eqv q b off cap cs w eF sort1_any hq hf hn
  go_enter Try.func21, Try.ntmps21
  go_wp2_with fail
  refine hcon.mono ?_
  rintro e w1 ⟨is, v, h1, h2, rfl, hown, hb⟩
  rw [sort_of_indices h1 h2] at hown
  clear hcon
  go_wp2
  go_ret
  exact ⟨v, rfl, hown, hb⟩

end Go.Proofs.Ytmekcfbopjgbeaa
