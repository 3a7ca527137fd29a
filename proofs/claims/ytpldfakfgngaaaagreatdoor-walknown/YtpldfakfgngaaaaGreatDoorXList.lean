/-
  The contract of disk.List: the map is gone through in whatever order, and what was found is sorted.
-/
import Derived.Test.YtpldfakfgngaaaaGreatDoorGDisk
namespace Go.Proofs.YtpldfakfgngaaaaGreatDoor
open Go.RowKit
open Go.Sort (Holds grow putRow)

/-- The names that begin so, in order. -/
def lst (p : List UInt8) (L : List Fl) : List (List UInt8) := (nms L).filter (fun x => p.isPrefixOf x)
theorem nms_srt {L : List Fl} (h : Srt L) : (nms L).Pairwise (· < ·) := List.pairwise_map.2 h
theorem lst_srt {L : List Fl} (p : List UInt8) (h : Srt L) : (lst p L).Pairwise (· < ·) := (nms_srt h).filter _
theorem mem_nms {L : List Fl} {s : List UInt8} : s ∈ nms L ↔ (lk s L).isSome = true := by
  constructor
  · intro h
    obtain ⟨f, hf, rfl⟩ := List.mem_map.1 h
    cases e : lk f.name L with
    | none => exact absurd rfl (lk_none e f hf)
    | some x => rfl
  · intro h
    cases e : lk s L with
    | none => rw [e] at h; cases h
    | some f =>
      obtain ⟨a, b⟩ := lk_some e
      exact List.mem_map.2 ⟨f, a, b⟩
theorem mem_lst {L : List Fl} {p s : List UInt8} : s ∈ lst p L ↔ (lk s L).isSome = true ∧ p.isPrefixOf s = true := by
  unfold lst
  rw [List.mem_filter, mem_nms]
/-- What has the same members, none twice, is sorted to it. -/
theorem sorted_is {l ss : List (List UInt8)} (hl : l.Pairwise (· < ·)) (hn : ss.Nodup) (hm : ∀ x, x ∈ ss ↔ x ∈ l) : (ss.mergeSort fun x y => decide (x ≤ y)) = l := by
  have hnl : l.Nodup := hl.imp fun h => lt_ne h
  have hp : ss.Perm l := (List.perm_ext_iff_of_nodup hn hnl).2 hm
  have e1 := mergeSort_of_perm hp
  show ss.mergeSort leB = l
  rw [e1]
  exact List.mergeSort_of_pairwise (hl.imp fun {a b} h => by
    show decide (a ≤ b) = true
    exact decide_eq_true (List.not_lt.1 fun k => lt_irr a (lt_tr h k)))

/-- What has been collected on the way. -/
structure Col (D : DataW Unit) (p : List UInt8) (left : Lit → Bool) (ss : List (List UInt8)) : Prop where
  nd : ss.Nodup
  mem : ∀ x, x ∈ ss ↔ (Maps.has D (.string x) = true ∧ left (.string x) = false ∧ p.isPrefixOf x = true)
theorem Col.start (D : DataW Unit) (p : List UInt8) : Col D p (Maps.has D) [] := ⟨List.nodup_nil, fun x => by
  cases Maps.has D (.string x) <;> simp⟩
theorem Col.skip {D : DataW Unit} {p : List UInt8} {left : Lit → Bool} {ss : List (List UInt8)} (h : Col D p left ss) {x : List UInt8} (hp : p.isPrefixOf x = false) : Col D p (fun z => left z && !z.sameKey (.string x)) ss := by
  refine ⟨h.nd, fun y => ?_⟩
  rw [h.mem]
  by_cases hy : y = x
  · subst hy; simp [hp]
  · simp [hy, Lit.sameKey]
theorem Col.take {D : DataW Unit} {p : List UInt8} {left : Lit → Bool} {ss : List (List UInt8)} (h : Col D p left ss) {x : List UInt8} (hl : left (.string x) = true) (hh : Maps.has D (.string x) = true) (hp : p.isPrefixOf x = true) :
    Col D p (fun z => left z && !z.sameKey (.string x)) (ss ++ [x]) := by
  have hnew : x ∉ ss := fun hx => by have := ((h.mem x).1 hx).2.1; rw [hl] at this; cases this
  refine ⟨List.nodup_append.2 ⟨h.nd, by simp, fun a ha b hb => by simp at hb; subst hb; exact fun e => hnew (e ▸ ha)⟩, fun y => ?_⟩
  by_cases hy : y = x
  · subst hy; simp [hh, hp, Lit.sameKey]
  · simp [h.mem y, hy, Lit.sameKey]
theorem Col.done {D : DataW Unit} {p : List UInt8} {left : Lit → Bool} {ss : List (List UInt8)} {L : List Fl} (h : Col D p left ss) (hM : Mp D L) (hs : Srt L) (hl : ∀ kl, left kl = false) : (ss.mergeSort fun x y => decide (x ≤ y)) = lst p L :=
  sorted_is (lst_srt p hs) h.nd fun x => by rw [h.mem, mem_lst, hM.2, hl]; simp
theorem key_inv (key : Value) (kl : Lit) (h : keyOf Tryz.prog 9 key = some kl) : ∃ x : List UInt8, key = .string (bstr x) := by
  obtain ⟨x, hx, _⟩ := Maps.keyOf_str Tryz.underlying9 h
  exact ⟨x, hx⟩
theorem ptr_shape (v : Value) (y : DataW Unit × List MemPlace) (h : ptrElem v = some y) : ∃ c, v = .pointer c := by
  rcases ptr_inv h with ⟨rfl, _⟩ | ⟨g, rfl, _⟩
  · exact ⟨_, rfl⟩
  · exact ⟨_, rfl⟩
theorem key_of {x : List UInt8} {kl : Lit} (h : keyOf Tryz.prog 9 (.string (bstr x)) = some kl) : kl = .string x ∧ x.length ≤ maxLen := by
  obtain ⟨y, hy, hk, hl⟩ := Maps.keyOf_str Tryz.underlying9 h
  have : x = y := encStr_inj (x := x) (y := y) hy
  subst this
  exact ⟨hk, hl⟩
theorem Tryz.infoStr : (Tryz.prog.info? 9).map (fun i => (i.zero, i.size, i.bytes)) = some (some (.string ⟨#[]⟩), 1, 16) := by kernel_rfl

set_option maxHeartbeats 4000000 in
set_option maxRecDepth 100000 in
theorem List_any {d m fr N : Nat} {L : List Fl} (p : List UInt8) (w : World) (h : Dk w d m L fr N) (hN : N ≤ 1099511627776) :
    Calls Tryz.prog 48 #[.pointer (some ⟨d, 0, none⟩), .string (bstr p)] w fun e w' => ∃ v, e = .returned v ∧ w'.ownsRow w.heap.size 9 1 v (lst p L).length ((lst p L).map encStr) ∧ Below w.heap.size w w' := by
  have hn := none_any w h
  have d1 : w.cell? ⟨d, 1, none⟩ = some (.map (some m)) := (cells_block h.blk).1 1
  have hlt : m < w.heap.size := h.lt (Or.inr (Or.inl rfl))
  obtain ⟨n, D, hnN, hown, hM⟩ := h.mp
  have hS := h.srt
  have hnm : ∀ x, Maps.has D (.string x) = true → x.length ≤ 64 := fun x hx => by
    rw [hM.2] at hx
    cases e : lk x L with
    | none => rw [e] at hx; cases hx
    | some f =>
      obtain ⟨a, b⟩ := lk_some e
      rw [← b]; exact (h.fl f a).nm.2
  have hsz := hown.size_le
  clear h
  obtain ⟨i0, hi, hz0, hz1, hz2⟩ := info_parts Tryz.infoStr
  go_enter Tryz.func48, Tryz.ntmps48
  go_wp2_with fail
  refine hn.mono ?_
  rintro e w1 ⟨rfl, rfl⟩
  clear hn
  go_wp2_with (first
    | (at_range; refine wpList_range_own _ rfl _ 106 rfl 9 109 keyT Tryz.underlying106 _ m n _ rfl hown ?_; intro w0 hrg0 hg0 hs0)
    | go_in)
  go_frame
  go_loopw [5] (fun v wr => ∃ (left : Lit → Bool) (cnt : Nat) (ss : List (List UInt8)), wr.ranges Tryz.prog 9 ptrElem m w1.heap.size n D left cnt ∧ ss.length + cnt ≤ Maps.size D ∧
      wr.ownsRow (w1.heap.size + 1) 9 1 v ss.length (ss.map encStr) ∧ Col D p left ss ∧ Below w1.heap.size w1 wr ∧ w1.heap.size + 1 ≤ wr.heap.size)
    (fun _ wr => wr.rangeLeft m w1.heap.size)
  case atStart =>
    exact ⟨_, _, [], hrg0, by simp, World.ownsRow_nil _ _ _ _, Col.start D p, (Below.refl _ _).grown hg0 (Nat.le_refl _) (fun j hj => by cases hj), by omega⟩
  case round =>
    obtain ⟨left, cnt, ss, hrg, hcs, hrow, hC, hnx, hws⟩ := hrel
    go_wp2_with (first
      | (at_next; refine wpList_next_ranges _ rfl _ rfl 9 keyT ptrElem (fun x : List UInt8 => .string (bstr x)) Value.pointer key_inv ptr_shape m w1.heap.size n _ _ _ rfl hrg ?_ ?_)
      | go_in)
    · intro hc0 hl0
      have hdone := hC.done hM hS hl0
      have hlen : (lst p L).length = ss.length := by rw [← hdone]; simp
      rcases hrow.2 with ⟨rfl, h0⟩ | ⟨g, cap, cur, rfl, hbase, hb, h1, h2, h3, h4⟩
      · go_wp2_with fail
        refine (Tryz.slices_Sort_string_none none 0 _).mono ?_
        rintro e w2 ⟨rfl, rfl⟩
        go_wp2
        go_ret
        have e0 : lst p L = [] := List.eq_nil_of_length_eq_zero (by omega)
        rw [e0]
        exact ⟨_, rfl, World.ownsRow_nil _ _ _ _, hnx⟩
      · go_wp2_with fail
        refine (Tryz.slices_Sort_string g 0 cap ss _ (holds_of_block hb (by simpa using h4)) (Array.getElem?_eq_some_iff.1 hb).1 (by omega)).mono ?_
        rintro e w2 ⟨rfl, n', os', rfl⟩
        rw [hdone]
        go_wp2
        go_ret
        have hl2 : (lst p L).length = ss.length := hlen
        have hO := ownsRow_sorted (n := n') (os := os') (base := w1.heap.size) hl2 (by omega) hb h1 h2 h3
        rw [hlen]
        exact ⟨_, rfl, hO, hnx.grown (grownBy_sorted _) hnx.size (fun j hj => by cases hj; omega)⟩
    · intro x c kl y1 y2 w2 cnt1 hkey hlx hpy hat hrg1 hlt1 hg1 hs1 hen
      obtain ⟨rfl, hxl⟩ := key_of hkey
      have hhas : Maps.has D (.string x) = true := Maps.has_true_of_atKey hat
      have hx64 := hnm x hhas
      have hrow1 := hrow.kept hg1 (Or.inr (row_ne_low hrow (Nat.lt_succ_self _)).symm)
      have hnx1 : Below w1.heap.size w1 w2 := hnx.grown hg1 hnx.size (fun j hj => by cases hj; exact Nat.le_refl _)
      have hp0 := Tryz.strings_HasPrefix (bstr x) (bstr p) w2
      rw [data_bstr, data_bstr] at hp0
      have hpe : Lib.hasPrefix x p = p.isPrefixOf x := rfl
      rw [hpe] at hp0
      clear hpy hat hkey hrow hnx hs1
      cases hpx : p.isPrefixOf x with
      | false =>
        rw [hpx] at hp0
        go_wp2_with fail
        refine hp0.mono ?_
        rintro e w3 ⟨rfl, rfl⟩
        go_wp2
        go_roundw
        case rel => exact ⟨_, cnt1, ss, hrg1, by omega, hrow1, hC.skip hpx, hnx1, by have := hg1.size; omega⟩
        case measure => rw [hrg1.left_eq, hrg.left_eq]; exact hlt1
      | true =>
        rw [hpx] at hp0
        go_wp2_with fail
        refine hp0.mono ?_
        rintro e w3 ⟨rfl, rfl⟩
        clear hp0
        go_wp2_with fail
        refine (CClone_any x _ (by omega)).mono ?_
        rintro e w4 ⟨rfl, hb4⟩
        have g4 : w3.grownBy w4 none := ⟨hb4.os, hb4.tape, hb4.output, hb4.size, fun i hi _ => hb4.block i hi⟩
        have hrow4 := hrow1.kept g4 (Classical.em _)
        have hrg4 := hrg1.kept g4 (by simp) (by simp)
        have hnx4 : Below w1.heap.size w1 w4 := b_step hnx1 hb4 (Nat.le_refl _)
        have hs4 : w1.heap.size + 1 ≤ w4.heap.size := by have := hg1.size; have := hb4.size; omega
        clear g4 hb4 hen
        go_wp2_with (at_builtin; refine wpList_append_own _ rfl _ _ 62 rfl (w1.heap.size + 1) 9 i0 (.string ⟨#[]⟩) 1 16 Tryz.underlying62 hi hz0 hz1 hz2 rfl (by decide) _ _ _ rfl (hrow4.alloc _) ⟨w4.heap.size, 0, none⟩ 1 1 [Value.string (bstr x)] rfl rfl ?c1 ?c2 ?c3 ?c4 ?c5 ?_)
        case c1 => exact cell_one_new _ _ _
        case c2 => simp [Value.oneCell']
        case c3 => unfold maxLen; omega
        case c4 => omega
        case c5 => simp; omega
        intro v' w5 hown5 hgrow5 hnil5
        go_wp2
        have hrg5 := (hrg4.alloc (.cells #[.string (bstr x)] 9)).kept hgrow5 (row_ne_low hrow4 (by omega)) (row_ne_low hrow4 (Nat.lt_succ_self _))
        go_roundw
        case rel =>
          refine ⟨_, cnt1, ss ++ [x], hrg5, by simp; omega, ?_, hC.take hlx hhas hpx, (hnx4.alloc hnx4.size _).grown hgrow5 (by have := hnx4.size; simp; omega) (fun j hj => Nat.le_of_succ_le (hrow4.lt j hj).1), ?_⟩
          · rw [List.map_append, List.length_append]; exact hown5
          · have := hgrow5.size; simp at this; omega
        case measure => rw [hrg5.left_eq, hrg.left_eq]; exact hlt1

set_option maxHeartbeats 1000000 in
theorem List_nil (p : List UInt8) (w : World) :
    Calls Tryz.prog 48 #[.pointer none, .string (bstr p)] w fun e w' => e = .returned (.slice none 0 0) ∧ w' = w := by
  go_enter Tryz.func48, Tryz.ntmps48
  go_wp2_with fail
  refine (none_nil _).mono ?_
  rintro e w1 ⟨rfl, rfl⟩
  go_wp2
  go_ret
  exact ⟨rfl, rfl⟩

set_option maxHeartbeats 1000000 in
theorem List_zero (d : Nat) (p : List UInt8) (w : World) (c1 : w.cell? ⟨d, 1, none⟩ = some (.map none)) :
    Calls Tryz.prog 48 #[.pointer (some ⟨d, 0, none⟩), .string (bstr p)] w fun e w' => e = .returned (.slice none 0 0) ∧ w' = w := by
  go_enter Tryz.func48, Tryz.ntmps48
  go_wp2_with fail
  refine (none_zero d _ c1).mono ?_
  rintro e w1 ⟨rfl, rfl⟩
  go_wp2
  go_ret
  exact ⟨rfl, rfl⟩

end Go.Proofs.YtpldfakfgngaaaaGreatDoor
