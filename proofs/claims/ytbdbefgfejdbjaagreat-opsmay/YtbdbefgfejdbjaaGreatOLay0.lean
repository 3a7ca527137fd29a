/-
  What rows of literals that fit are made of; numbers and texts laid out of a new row.
-/
import Derived.Test.YtbdbefgfejdbjaaGreatOMath
import Derived.Test.YtbdbefgfejdbjaaGreatGJEnc
import Derived.Deep.MidRow
namespace Go.Proofs.YtbdbefgfejdbjaaGreat
open Go.RowKit Go.BigFrame
attribute [local go_sem] size_bstr toList_bstr append_bstr

abbrev litsV (l : List Lit) : Value := .agg (l.map Lit.toCell).toArray
theorem fit_cons {k : Fk} {ks : List Fk} {vs : List Lit} (h : fitKs (k :: ks) vs) : ∃ v vs', vs = v :: vs' ∧ fitK k v ∧ fitKs ks vs' := by
  cases vs with
  | nil => exact h.elim
  | cons v vs => exact ⟨v, vs, rfl, h.1, h.2⟩
theorem fit_nil {vs : List Lit} (h : fitKs [] vs) : vs = [] := by
  cases vs with
  | nil => rfl
  | cons v vs => exact h.elim
theorem fitI {v : Lit} (h : fitK .I v) : ∃ n : Nat, v = .int .i64 (n : Int) ∧ n ≤ 2147483647 := by
  unfold fitK at h
  split at h <;> first | exact h.elim | skip
  rename_i n _
  exact ⟨n.toNat, by congr 1; omega, by omega⟩
  all_goals contradiction
theorem fitU {v : Lit} (h : fitK .U v) : ∃ n : Nat, v = .int .u64 (n : Int) ∧ n ≤ 18446744073709551615 := by
  unfold fitK at h
  split at h <;> first | exact h.elim | skip
  all_goals first | contradiction | skip
  rename_i n _
  exact ⟨n.toNat, by congr 1; omega, by omega⟩
theorem fitB {v : Lit} (h : fitK .B v) : ∃ b, v = .bool b := by
  unfold fitK at h
  split at h <;> first | exact h.elim | skip
  all_goals first | contradiction | exact ⟨_, rfl⟩
theorem fitS {v : Lit} (h : fitK .S v) : ∃ s, v = .string s ∧ s.length ≤ 1048576 := by
  unfold fitK at h
  split at h <;> first | exact h.elim | skip
  all_goals first | contradiction | exact ⟨_, rfl, h⟩
theorem fitG {v : Lit} (h : fitK .G v) : ∃ n : Int, v = .int .i64 n ∧ zig n ≤ 2147483647 := by
  unfold fitK at h
  split at h <;> first | exact h.elim | skip
  all_goals first | contradiction | exact ⟨_, rfl, h⟩
theorem layK_len {k : Fk} {v : Lit} (h : fitK k v) : (layK k v).length ≤ 1048586 := by
  unfold fitK at h
  split at h
  · rename_i n
    have := Lib.uvarint_length64 (x := n.toNat) (by omega)
    simp only [layK]; omega
  · rename_i n
    have := Lib.uvarint_length64 (x := n.toNat) (by omega)
    simp only [layK]; omega
  · rename_i b
    cases b <;> decide
  · rename_i s
    have := txt_len (s := s) (by omega)
    simp only [layK]; omega
  · rename_i n
    have := Lib.uvarint_length64 (x := zig n) (by omega)
    simp only [layK]; omega
  · exact h.elim
theorem layKs_len : ∀ {ks : List Fk} {vs : List Lit}, fitKs ks vs → (layKs ks vs).length ≤ 1048586 * ks.length
  | [], [], _ => by simp [layKs]
  | k :: ks, v :: vs, h => by
    have h1 := layK_len h.1
    have h2 := layKs_len h.2
    simp only [layKs, List.length_append, List.length_cons]
    omega
  | [], _ :: _, h => h.elim
  | _ :: _, [], h => h.elim

theorem range_of_block {w : World} {b : Nat} {arr : Array Value} {t : TypeId} {fz : Nat × Nat} (h : w.heap[b]? = some (.cells arr t fz)) (pre cs post : List Value) (hs : arr.toList = pre ++ (cs ++ post)) : w.rangeAt b pre.length cs := by
  intro j v hv
  have hj : j < cs.length := (List.getElem?_eq_some_iff.1 hv).1
  have : w.cell? ⟨b, pre.length + j, none⟩ = arr[pre.length + j]? := by simp [World.cell?, h]
  rw [this, ← Array.getElem?_toList, hs, List.getElem?_append_right (by omega), Nat.add_sub_cancel_left, List.getElem?_append_left hj]
  exact hv
theorem range_below {w w' : World} {b o : Nat} {cs : List Value} (hb : Below w.heap.size w w') (h : w.rangeAt b o cs) : w'.rangeAt b o cs := fun j v hv => cell_below hb (h j v hv)
theorem sl_newL (W : World) (xs : List Value) (t : TypeId) : slV xs (.slice (some ⟨W.heap.size, 0, none⟩) xs.length xs.length) (W.alloc (.cells xs.toArray t)) :=
  ⟨W.heap.size, rfl, by simp, fun i h => by
    rw [(mcells (heap_alloc_new W _)).1 i]
    simp [h]⟩
/-- Numbers, texts laid out of a new row. -/
theorem jNumsV (l : List Nat) (v : Value) (w : World) (hs : slV (l.map fun x : Nat => .int .u64 (x : Int)) v w) (hl : l.length ≤ 20) (hv : ∀ x ∈ l, x < 18446744073709551616) :
    Calls Tryz.prog 75 #[v] w fun e w' => e = .returned (.string (bstr (nums l))) ∧ Below w.heap.size w w' := by
  obtain ⟨b, rfl, hb, hc⟩ := hs
  rw [List.length_map]
  refine jNums_any b l.length l w hl (fun i h => ?_) hb hv
  refine (hc i (by rw [List.length_map]; exact h)).trans ?_
  simp
theorem jTxtsV (l : List (List UInt8)) (v : Value) (w : World) (hs : slV (l.map fun x : List UInt8 => .string (bstr x)) v w) (hl : l.length ≤ 20) (hv : ∀ x ∈ l, x.length ≤ 1048576) :
    Calls Tryz.prog 84 #[v] w fun e w' => e = .returned (.string (bstr (txts l))) ∧ Below w.heap.size w w' := by
  obtain ⟨b, rfl, hb, hc⟩ := hs
  rw [List.length_map]
  refine jTxts_any b l.length 1048576 l w hl (fun i h => ?_) hb (Nat.le_refl _) hv
  refine (hc i (by rw [List.length_map]; exact h)).trans ?_
  simp
theorem slV_new1 (W : World) (x : Value) (t : TypeId) : slV [x] (.slice (some ⟨W.heap.size, 0, none⟩) 1 1) (W.alloc (.cells #[x] t)) := sl_newL W [x] t

set_option maxHeartbeats 1000000 in
theorem oInt_any (n : Nat) (w : World) (h : n < 9223372036854775808) :
    Calls Tryz.prog 78 #[.int .i64 (n : Int)] w fun x w' => x = .returned (.string (bstr (Lib.uvarint n))) ∧ Below w.heap.size w w' := by
  have hwn : IntKind.u64.wrap (n : Int) = (n : Int) := by rw [IntKind.wrap_u64]; omega
  have hs := slV_new1 w (.int .u64 (n : Int)) 22
  go_enter Tryz.func78, Tryz.ntmps78
  go_wp2_with fail
  refine (jNumsV [n] _ _ hs (by simp) (by simp; omega)).mono ?_
  rintro e w1 ⟨rfl, hb⟩
  go_wp2
  go_ret
  exact ⟨by simp [nums], bel_call hb (bel_alloc (Below.refl _ _))⟩
set_option maxHeartbeats 1000000 in
theorem oSigned_any (n : Int) (w : World) (h : zig n ≤ 2147483647) :
    Calls Tryz.prog 123 #[.int .i64 n] w fun x w' => x = .returned (.string (bstr (Lib.uvarint (zig n)))) ∧ Below w.heap.size w w' := by
  by_cases h0 : n < 0
  · obtain ⟨k, rfl⟩ : ∃ k : Nat, n = -(k : Int) := ⟨n.natAbs, by omega⟩
    have hz : zig (-(k : Int)) = 2 * k - 1 := by
      unfold zig
      rw [if_pos h0]
      omega
    have e1 : wrap64 (k : Int) = (k : Int) := by unfold wrap64; omega
    have e2 : IntKind.u64.wrap (k : Int) = (k : Int) := by rw [IntKind.wrap_u64]; omega
    have e3 : IntKind.u64.wrap (2 * (k : Int)) = 2 * (k : Int) := by rw [IntKind.wrap_u64]; omega
    have e4 : IntKind.u64.wrap (2 * (k : Int) - 1) = ((2 * k - 1 : Nat) : Int) := by rw [IntKind.wrap_u64]; omega
    have hs := slV_new1 w (.int .u64 ((2 * k - 1 : Nat) : Int)) 22
    rw [hz] at h ⊢
    have HK : Hid _ := h
    generalize 2 * k - 1 = m at *
    clear h hz
    go_enter Tryz.func123, Tryz.ntmps123
    go_wp2_with fail
    refine (jNumsV [m] _ _ hs (by simp) (by have := HK.out; simp; omega)).mono ?_
    rintro e w1 ⟨rfl, hb⟩
    go_wp2
    go_ret
    exact ⟨by simp [nums], bel_call hb (bel_alloc (Below.refl _ _))⟩
  · obtain ⟨k, rfl⟩ : ∃ k : Nat, n = (k : Int) := ⟨n.natAbs, by omega⟩
    have hz : zig (k : Int) = 2 * k := by
      unfold zig
      rw [if_neg h0]
      omega
    have e2 : IntKind.u64.wrap (k : Int) = (k : Int) := by rw [IntKind.wrap_u64]; omega
    have e3 : IntKind.u64.wrap (2 * (k : Int)) = ((2 * k : Nat) : Int) := by rw [IntKind.wrap_u64]; omega
    have hs := slV_new1 w (.int .u64 ((2 * k : Nat) : Int)) 22
    rw [hz] at h ⊢
    have HK : Hid _ := h
    generalize 2 * k = m at *
    clear h hz
    go_enter Tryz.func123, Tryz.ntmps123
    go_wp2_with fail
    refine (jNumsV [m] _ _ hs (by simp) (by have := HK.out; simp; omega)).mono ?_
    rintro e w1 ⟨rfl, hb⟩
    go_wp2
    go_ret
    exact ⟨by simp [nums], bel_call hb (bel_alloc (Below.refl _ _))⟩

end Go.Proofs.YtbdbefgfejdbjaaGreat
