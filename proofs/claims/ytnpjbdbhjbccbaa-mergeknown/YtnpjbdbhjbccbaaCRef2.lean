/-
  The document's newest of each place, and those that are alive.
-/
import Derived.Test.YtnpjbdbhjbccbaaCRef
namespace Go.Proofs.Ytnpjbdbhjbccbaa
open Go.RowKit Go.BigFrame Go.Sort
attribute [local go_sem] size_bstr toList_bstr ls_def

set_option maxHeartbeats 1000000 in
theorem Place_any (a b : Cl) (w : World) : Calls Try.prog 44 #[clV a, clV b] w fun e w' => e = .returned (.bool (plc a b)) ∧ RowKit.Below w.heap.size w w' := by
  unfold plc
  obtain ⟨r, k, v, z, x⟩ := a
  obtain ⟨r', k', v', z', x'⟩ := b
  simp only
  have hB2 : RowKit.Below w.heap.size w ((w.alloc (.cells #[.string (bstr r), .string (bstr k), .int .u64 v, .bool z, .string (bstr x)] 39)).alloc (.cells #[.string (bstr r'), .string (bstr k'), .int .u64 v', .bool z', .string (bstr x')] 39)) := ((RowKit.Below.refl _ _).alloc (Nat.le_refl _) _).alloc (by simp) _
  have rb := CellAt.new2 w (.cells #[.string (bstr r), .string (bstr k), .int .u64 v, .bool z, .string (bstr x)] 39) 39 r' k' v' z' x'
  have ra := (CellAt.new w 39 r k v z x).alloc (.cells #[.string (bstr r'), .string (bstr k'), .int .u64 v', .bool z', .string (bstr x')] 39)
  cases h1 : (r == r') with
  | true =>
    rw [Bool.true_and]
    generalize hd : (k == k') = d at *
    go_enter Try.func44, Try.ntmps44
    go_wp2_with fail
    generalize (w.alloc (.cells #[.string (bstr r), .string (bstr k), .int .u64 v, .bool z, .string (bstr x)] 39)).alloc (.cells #[.string (bstr r'), .string (bstr k'), .int .u64 v', .bool z', .string (bstr x')] 39) = W at *
    obtain ⟨a0, a1, _, _, _⟩ := ra
    obtain ⟨b0, b1, _, _, _⟩ := rb
    first | go_quiet (fail) | skip
    go_wp2
    go_ret
    exact ⟨rfl, by first | exact hB2 | exact below_drewN hB2 nq⟩
  | false =>
    rw [Bool.false_and]
    go_enter Try.func44, Try.ntmps44
    go_wp2_with fail
    generalize (w.alloc (.cells #[.string (bstr r), .string (bstr k), .int .u64 v, .bool z, .string (bstr x)] 39)).alloc (.cells #[.string (bstr r'), .string (bstr k'), .int .u64 v', .bool z', .string (bstr x')] 39) = W at *
    obtain ⟨a0, a1, _, _, _⟩ := ra
    obtain ⟨b0, b1, _, _, _⟩ := rb
    first | go_quiet (fail) | skip
    go_wp2
    go_ret
    exact ⟨rfl, by first | exact hB2 | exact below_drewN hB2 nq⟩

theorem new_zero {ss : List Cl} (h : 0 < ss.length) : ddl plc (ss.take 1) = [ss[0]] := by
  rw [List.take_succ_eq_append_getElem h]
  rfl
theorem new_next {ss : List Cl} {m : Nat} (h : m + 1 < ss.length) : ddl plc (ss.take (m + 1 + 1)) = if plc ss[m] ss[m + 1] = true then ddl plc (ss.take (m + 1)) else ddl plc (ss.take (m + 1)) ++ [ss[m + 1]] := by
  have hl : (ss.take (m + 1)).getLast? = some ss[m] := by
    rw [List.take_succ_eq_append_getElem (show m < ss.length by omega), getLast?_snoc]
  obtain ⟨z, hz, hp⟩ := ddl_last ss (m + 1) (by omega) ss[m] hl
  rw [List.take_succ_eq_append_getElem h, ddl_snoc]
  have e : plc z ss[m + 1] = plc ss[m] ss[m + 1] := plc_left hp
  cases hc : plc ss[m] ss[m + 1] with
  | true => rw [if_pos rfl, stp_yes hz (by rw [e]; exact hc)]
  | false => rw [if_neg (by simp), stp_no hz (by rw [e]; exact hc)]
theorem new_take_len (ss : List Cl) (i : Nat) : (ddl plc (ss.take i)).length ≤ i := Nat.le_trans (ddl_length _ _) (by rw [List.length_take]; omega)

/-- Those that are alive. -/
def aliveL (l : List Cl) : List Cl := (newL l).filter fun c => !c.gone
theorem filter_yes {α : Type} (f : α → Bool) {l : List α} {i : Nat} (h : i < l.length) (k : f l[i] = true) : (l.take (i + 1)).filter f = (l.take i).filter f ++ [l[i]] := by
  rw [List.take_succ_eq_append_getElem h, List.filter_append]
  simp [k]
theorem filter_no {α : Type} (f : α → Bool) {l : List α} {i : Nat} (h : i < l.length) (k : f l[i] = false) : (l.take (i + 1)).filter f = (l.take i).filter f := by
  rw [List.take_succ_eq_append_getElem h, List.filter_append]
  simp [k]
theorem filter_len {α : Type} (f : α → Bool) (l : List α) (i : Nat) : ((l.take i).filter f).length ≤ i := Nat.le_trans (List.length_filter_le _ _) (by rw [List.length_take]; omega)

end Go.Proofs.Ytnpjbdbhjbccbaa
