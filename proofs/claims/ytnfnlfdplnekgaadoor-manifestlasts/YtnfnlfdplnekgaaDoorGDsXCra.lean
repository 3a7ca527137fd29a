/-
  The contract of disk.List: the map is gone through in whatever order, and what was found is sorted.
  The contracts of a file's crash, and of disk.Crash.
  The contract of disk.Crash.
-/
import Derived.Test.YtnfnlfdplnekgaaDoorGDsXRen
namespace Go.Proofs.YtnfnlfdplnekgaaDoor.Ds
open Go.RowKit
open Go.Sort (Holds grow putRow)

/-- The names that begin so, in order. -/
def lst (p : List UInt8) (L : List Fl) : List (List UInt8) := (nms L).filter (fun x => p.isPrefixOf x)
theorem nms_srt {L : List Fl} (h : Srt L) : (nms L).Pairwise (· < ·) := List.pairwise_map.2 h
theorem lst_srt {L : List Fl} (p : List UInt8) (h : Srt L) : (lst p L).Pairwise (· < ·) := (nms_srt h).filter _
theorem mem_nms {L : List Fl} {s : List UInt8} : s ∈ nms L ↔ (lk s L).isSome = true := by
  constructor
  · intro h
    obtain ⟨f, hf, rfl⟩ := List.mem_map.1 h
    cases e : lk f.name L with
    | none => exact absurd rfl (lk_none e f hf)
    | some x => rfl
  · intro h
    cases e : lk s L with
    | none => rw [e] at h; cases h
    | some f =>
      obtain ⟨a, b⟩ := lk_some e
      exact List.mem_map.2 ⟨f, a, b⟩
theorem mem_lst {L : List Fl} {p s : List UInt8} : s ∈ lst p L ↔ (lk s L).isSome = true ∧ p.isPrefixOf s = true := by
  unfold lst
  rw [List.mem_filter, mem_nms]
/-- What has the same members, none twice, is sorted to it. -/
theorem sorted_is {l ss : List (List UInt8)} (hl : l.Pairwise (· < ·)) (hn : ss.Nodup) (hm : ∀ x, x ∈ ss ↔ x ∈ l) : (ss.mergeSort fun x y => decide (x ≤ y)) = l := by
  have hnl : l.Nodup := hl.imp fun h => lt_ne h
  have hp : ss.Perm l := (List.perm_ext_iff_of_nodup hn hnl).2 hm
  have e1 := mergeSort_of_perm hp
  show ss.mergeSort leB = l
  rw [e1]
  exact List.mergeSort_of_pairwise (hl.imp fun {a b} h => by
    show decide (a ≤ b) = true
    exact decide_eq_true (List.not_lt.1 fun k => lt_irr a (lt_tr h k)))

/-- What has been collected on the way. -/
structure Col (D : DataW Unit) (p : List UInt8) (left : Lit → Bool) (ss : List (List UInt8)) : Prop where
  nd : ss.Nodup
  mem : ∀ x, x ∈ ss ↔ (Maps.has D (.string x) = true ∧ left (.string x) = false ∧ p.isPrefixOf x = true)
theorem Col.start (D : DataW Unit) (p : List UInt8) : Col D p (Maps.has D) [] := ⟨List.nodup_nil, fun x => by
  cases Maps.has D (.string x) <;> simp⟩
theorem Col.skip {D : DataW Unit} {p : List UInt8} {left : Lit → Bool} {ss : List (List UInt8)} (h : Col D p left ss) {x : List UInt8} (hp : p.isPrefixOf x = false) : Col D p (fun z => left z && !z.sameKey (.string x)) ss := by
  refine ⟨h.nd, fun y => ?_⟩
  rw [h.mem]
  by_cases hy : y = x
  · subst hy; simp [hp]
  · simp [hy, Lit.sameKey]
theorem Col.take {D : DataW Unit} {p : List UInt8} {left : Lit → Bool} {ss : List (List UInt8)} (h : Col D p left ss) {x : List UInt8} (hl : left (.string x) = true) (hh : Maps.has D (.string x) = true) (hp : p.isPrefixOf x = true) :
    Col D p (fun z => left z && !z.sameKey (.string x)) (ss ++ [x]) := by
  have hnew : x ∉ ss := fun hx => by have := ((h.mem x).1 hx).2.1; rw [hl] at this; cases this
  refine ⟨List.nodup_append.2 ⟨h.nd, by simp, fun a ha b hb => by simp at hb; subst hb; exact fun e => hnew (e ▸ ha)⟩, fun y => ?_⟩
  by_cases hy : y = x
  · subst hy; simp [hh, hp, Lit.sameKey]
  · simp [h.mem y, hy, Lit.sameKey]
theorem Col.done {D : DataW Unit} {p : List UInt8} {left : Lit → Bool} {ss : List (List UInt8)} {L : List Fl} (h : Col D p left ss) (hM : Mp D L) (hs : Srt L) (hl : ∀ kl, left kl = false) : (ss.mergeSort fun x y => decide (x ≤ y)) = lst p L :=
  sorted_is (lst_srt p hs) h.nd fun x => by rw [h.mem, mem_lst, hM.2, hl]; simp
theorem key_inv (key : Value) (kl : Lit) (h : keyOf Tryd.prog 9 key = some kl) : ∃ x : List UInt8, key = .string (bstr x) := by
  obtain ⟨x, hx, _⟩ := Maps.keyOf_str Tryd.underlying9 h
  exact ⟨x, hx⟩
theorem ptr_shape (v : Value) (y : DataW Unit × List MemPlace) (h : ptrElem v = some y) : ∃ c, v = .pointer c := by
  rcases ptr_inv h with ⟨rfl, _⟩ | ⟨g, rfl, _⟩
  · exact ⟨_, rfl⟩
  · exact ⟨_, rfl⟩
theorem key_of {x : List UInt8} {kl : Lit} (h : keyOf Tryd.prog 9 (.string (bstr x)) = some kl) : kl = .string x ∧ x.length ≤ maxLen := by
  obtain ⟨y, hy, hk, hl⟩ := Maps.keyOf_str Tryd.underlying9 h
  have : x = y := encStr_inj (x := x) (y := y) hy
  subst this
  exact ⟨hk, hl⟩
theorem Tryd.infoStr : (Tryd.prog.info? 9).map (fun i => (i.zero, i.size, i.bytes)) = some (some (.string ⟨#[]⟩), 1, 16) := by kernel_rfl

set_option maxHeartbeats 4000000 in
set_option maxRecDepth 100000 in
theorem List_any {d m fr N : Nat} {L : List Fl} (p : List UInt8) (w : World) (h : Dk w d m L fr N) (hN : N ≤ 1099511627776) :
    Calls Tryd.prog 17 #[.pointer (some ⟨d, 0, none⟩), .string (bstr p)] w fun e w' => ∃ v, e = .returned v ∧ w'.ownsRow w.heap.size 9 1 v (lst p L).length ((lst p L).map encStr) ∧ Below w.heap.size w w' := by
  have hn := none_any w h
  have d1 : w.cell? ⟨d, 1, none⟩ = some (.map (some m)) := (cells_block h.blk).1 1
  have hlt : m < w.heap.size := h.lt (Or.inr (Or.inl rfl))
  obtain ⟨n, D, hnN, hown, hM⟩ := h.mp
  have hS := h.srt
  have hnm : ∀ x, Maps.has D (.string x) = true → x.length ≤ 64 := fun x hx => by
    rw [hM.2] at hx
    cases e : lk x L with
    | none => rw [e] at hx; cases hx
    | some f =>
      obtain ⟨a, b⟩ := lk_some e
      rw [← b]; exact (h.fl f a).nm.2
  have hsz := hown.size_le
  clear h
  obtain ⟨i0, hi, hz0, hz1, hz2⟩ := info_parts Tryd.infoStr
  go_enter Tryd.func17, Tryd.ntmps17
  go_wp2_with fail
  refine hn.mono ?_
  rintro e w1 ⟨rfl, rfl⟩
  clear hn
  go_wp2_with (first
    | (at_range; refine wpList_range_own _ rfl _ 43 rfl 9 56 keyT Tryd.underlying43 _ m n _ rfl hown ?_; intro w0 hrg0 hg0 hs0)
    | go_in)
  go_frame
  go_loopw [5] (fun v wr => ∃ (left : Lit → Bool) (cnt : Nat) (ss : List (List UInt8)), wr.ranges Tryd.prog 9 ptrElem m w1.heap.size n D left cnt ∧ ss.length + cnt ≤ Maps.size D ∧
      wr.ownsRow (w1.heap.size + 1) 9 1 v ss.length (ss.map encStr) ∧ Col D p left ss ∧ Below w1.heap.size w1 wr ∧ w1.heap.size + 1 ≤ wr.heap.size)
    (fun _ wr => wr.rangeLeft m w1.heap.size)
  case atStart =>
    exact ⟨_, _, [], hrg0, by simp, World.ownsRow_nil _ _ _ _, Col.start D p, (Below.refl _ _).grown hg0 (Nat.le_refl _) (fun j hj => by cases hj), by omega⟩
  case round =>
    obtain ⟨left, cnt, ss, hrg, hcs, hrow, hC, hnx, hws⟩ := hrel
    go_wp2_with (first
      | (at_next; refine wpList_next_ranges _ rfl _ rfl 9 keyT ptrElem (fun x : List UInt8 => .string (bstr x)) Value.pointer key_inv ptr_shape m w1.heap.size n _ _ _ rfl hrg ?_ ?_)
      | go_in)
    · intro hc0 hl0
      have hdone := hC.done hM hS hl0
      have hlen : (lst p L).length = ss.length := by rw [← hdone]; simp
      rcases hrow.2 with ⟨rfl, h0⟩ | ⟨g, cap, cur, rfl, hbase, hb, h1, h2, h3, h4⟩
      · go_wp2_with fail
        refine (Tryd.slices_Sort_string_none none 0 _).mono ?_
        rintro e w2 ⟨rfl, rfl⟩
        go_wp2
        go_ret
        have e0 : lst p L = [] := List.eq_nil_of_length_eq_zero (by omega)
        rw [e0]
        exact ⟨_, rfl, World.ownsRow_nil _ _ _ _, hnx⟩
      · go_wp2_with fail
        refine (Tryd.slices_Sort_string g 0 cap ss _ (holds_of_block hb (by simpa using h4)) (Array.getElem?_eq_some_iff.1 hb).1 (by omega)).mono ?_
        rintro e w2 ⟨rfl, n', os', rfl⟩
        rw [hdone]
        go_wp2
        go_ret
        have hl2 : (lst p L).length = ss.length := hlen
        have hO := ownsRow_sorted (n := n') (os := os') (base := w1.heap.size) hl2 (by omega) hb h1 h2 h3
        rw [hlen]
        exact ⟨_, rfl, hO, hnx.grown (grownBy_sorted _) hnx.size (fun j hj => by cases hj; omega)⟩
    · intro x c kl y1 y2 w2 cnt1 hkey hlx hpy hat hrg1 hlt1 hg1 hs1 hen
      obtain ⟨rfl, hxl⟩ := key_of hkey
      have hhas : Maps.has D (.string x) = true := Maps.has_true_of_atKey hat
      have hx64 := hnm x hhas
      have hrow1 := hrow.kept hg1 (Or.inr (row_ne_low hrow (Nat.lt_succ_self _)).symm)
      have hnx1 : Below w1.heap.size w1 w2 := hnx.grown hg1 hnx.size (fun j hj => by cases hj; exact Nat.le_refl _)
      have hp0 := Tryd.strings_HasPrefix (bstr x) (bstr p) w2
      rw [data_bstr, data_bstr] at hp0
      have hpe : Lib.hasPrefix x p = p.isPrefixOf x := rfl
      rw [hpe] at hp0
      clear hpy hat hkey hrow hnx hs1
      cases hpx : p.isPrefixOf x with
      | false =>
        rw [hpx] at hp0
        go_wp2_with fail
        refine hp0.mono ?_
        rintro e w3 ⟨rfl, rfl⟩
        go_wp2
        go_roundw
        case rel => exact ⟨_, cnt1, ss, hrg1, by omega, hrow1, hC.skip hpx, hnx1, by have := hg1.size; omega⟩
        case measure => rw [hrg1.left_eq, hrg.left_eq]; exact hlt1
      | true =>
        rw [hpx] at hp0
        go_wp2_with fail
        refine hp0.mono ?_
        rintro e w3 ⟨rfl, rfl⟩
        clear hp0
        go_wp2_with fail
        refine (CClone_any x _ (by omega)).mono ?_
        rintro e w4 ⟨rfl, hb4⟩
        have g4 : w3.grownBy w4 none := ⟨hb4.os, hb4.tape, hb4.output, hb4.size, fun i hi _ => hb4.block i hi⟩
        have hrow4 := hrow1.kept g4 (Classical.em _)
        have hrg4 := hrg1.kept g4 (by simp) (by simp)
        have hnx4 : Below w1.heap.size w1 w4 := b_step hnx1 hb4 (Nat.le_refl _)
        have hs4 : w1.heap.size + 1 ≤ w4.heap.size := by have := hg1.size; have := hb4.size; omega
        clear g4 hb4 hen
        go_wp2_with (at_builtin; refine wpList_append_own _ rfl _ _ 54 rfl (w1.heap.size + 1) 9 i0 (.string ⟨#[]⟩) 1 16 Tryd.underlying54 hi hz0 hz1 hz2 rfl (by decide) _ _ _ rfl (hrow4.alloc _) ⟨w4.heap.size, 0, none⟩ 1 1 [Value.string (bstr x)] rfl rfl ?c1 ?c2 ?c3 ?c4 ?c5 ?_)
        case c1 => exact cell_one_new _ _ _
        case c2 => simp [Value.oneCell']
        case c3 => unfold maxLen; omega
        case c4 => omega
        case c5 => simp; omega
        intro v' w5 hown5 hgrow5 hnil5
        go_wp2
        have hrg5 := (hrg4.alloc (.cells #[.string (bstr x)] 9)).kept hgrow5 (row_ne_low hrow4 (by omega)) (row_ne_low hrow4 (Nat.lt_succ_self _))
        go_roundw
        case rel =>
          refine ⟨_, cnt1, ss ++ [x], hrg5, by simp; omega, ?_, hC.take hlx hhas hpx, (hnx4.alloc hnx4.size _).grown hgrow5 (by have := hnx4.size; simp; omega) (fun j hj => Nat.le_of_succ_le (hrow4.lt j hj).1), ?_⟩
          · rw [List.map_append, List.length_append]; exact hown5
          · have := hgrow5.size; simp at this; omega
        case measure => rw [hrg5.left_eq, hrg.left_eq]; exact hlt1

set_option maxHeartbeats 1000000 in
theorem List_nil (p : List UInt8) (w : World) :
    Calls Tryd.prog 17 #[.pointer none, .string (bstr p)] w fun e w' => e = .returned (.slice none 0 0) ∧ w' = w := by
  go_enter Tryd.func17, Tryd.ntmps17
  go_wp2_with fail
  refine (none_nil _).mono ?_
  rintro e w1 ⟨rfl, rfl⟩
  go_wp2
  go_ret
  exact ⟨rfl, rfl⟩

set_option maxHeartbeats 1000000 in
theorem List_zero (d : Nat) (p : List UInt8) (w : World) (c1 : w.cell? ⟨d, 1, none⟩ = some (.map none)) :
    Calls Tryd.prog 17 #[.pointer (some ⟨d, 0, none⟩), .string (bstr p)] w fun e w' => e = .returned (.slice none 0 0) ∧ w' = w := by
  go_enter Tryd.func17, Tryd.ntmps17
  go_wp2_with fail
  refine (none_zero d _ c1).mono ?_
  rintro e w1 ⟨rfl, rfl⟩
  go_wp2
  go_ret
  exact ⟨rfl, rfl⟩

end Go.Proofs.YtnfnlfdplnekgaaDoor.Ds

namespace Go.Proofs.YtnfnlfdplnekgaaDoor.Ds
open Go.RowKit

/-- How many of u bytes stay. -/
def kn (k : Int) (u : Nat) : Nat := (k % ((u : Int) + 1)).toNat
theorem kn_le (k : Int) (u : Nat) : kn k u ≤ u := by
  unfold kn
  have h1 := Int.emod_nonneg k (b := (u : Int) + 1) (by omega)
  have h2 := Int.emod_lt_of_pos k (b := (u : Int) + 1) (by omega)
  omega
theorem kn_neg {k : Int} {u : Nat} (h : k.tmod ((u : Int) + 1) < 0) : ((kn k u : Nat) : Int) = k.tmod ((u : Int) + 1) + ((u : Int) + 1) := by
  unfold kn
  have h1 := Int.emod_nonneg k (b := (u : Int) + 1) (by omega)
  have h2 := Int.emod_lt_of_pos k (b := (u : Int) + 1) (by omega)
  rw [Int.tmod_eq_emod] at h ⊢
  split at h
  · omega
  · rw [Int.toNat_of_nonneg h1]
    have : ((u : Int) + 1).natAbs = u + 1 := by omega
    simp only [this]
    split
    · omega
    · omega
theorem kn_pos {k : Int} {u : Nat} (h : ¬ k.tmod ((u : Int) + 1) < 0) : ((kn k u : Nat) : Int) = k.tmod ((u : Int) + 1) := by
  unfold kn
  have h1 := Int.emod_nonneg k (b := (u : Int) + 1) (by omega)
  have h2 := Int.emod_lt_of_pos k (b := (u : Int) + 1) (by omega)
  rw [Int.tmod_eq_emod] at h ⊢
  have : ((u : Int) + 1).natAbs = u + 1 := by omega
  split at h
  · rename_i hc
    rw [if_pos hc]; omega
  · rename_i hc
    simp only [this] at h
    omega

/-- A file behind a loss of power. -/
def crF (k : Int) (f : Fl) (v' : Value) : Fl := { f with bytes := f.bytes.take (f.syn + kn k (f.bytes.length - f.syn)), syn := f.syn + kn k (f.bytes.length - f.syn), v := v' }
theorem own_take {w : World} {e : TypeId} {q : Option Addr} {cap n : Nat} {l : List UInt8} (h : w.ownsRow 0 e 1 (.slice q l.length cap) l.length (Lib.byteCells l)) (hn : n ≤ l.length) (hq : q ≠ none) : w.ownsRow 0 e 1 (.slice q n cap) (l.take n).length (Lib.byteCells (l.take n)) := by
  have e1 : (l.take n).length = n := by rw [List.length_take]; omega
  rcases h.2 with ⟨a, _⟩ | ⟨g, cp, cur, a, b1, b2, b3, b4, b5, b6⟩
  · injection a with a1 a2 a3
    exact absurd a1 hq
  · injection a with a1 a2 a3
    subst a1 a3
    refine ⟨by simp [Lib.byteCells], .inr ⟨g, cap, cur, by rw [e1], b1, b2, by omega, b4, b5, ?_⟩⟩
    have e2 : Lib.byteCells (l.take n) = (Lib.byteCells l).take n := by simp [Lib.byteCells, List.map_take]
    rw [e2, ← b6, List.take_take, e1]
    congr 1
    omega
theorem Dk.cut {w : World} {d m fr N : Nat} {L : List Fl} (h : Dk w d m L fr N) {f : Fl} (e : lk f.name L = some f) (k : Int) (v' : Value)
    (hv : w.ownsRow 0 5 1 v' (crF k f v').bytes.length (Lib.byteCells (crF k f v').bytes)) (hb : v'.ownBlock = f.v.ownBlock) :
    Stp w ((w.setCell ⟨f.g, 1, none⟩ (.int .i64 ((f.syn + kn k (f.bytes.length - f.syn) : Nat) : Int))).setCell ⟨f.g, 0, none⟩ v') d m L (wth (crF k f v') L) fr N := by
  obtain ⟨hm, _⟩ := lk_some e
  have hF := h.fl f hm
  obtain ⟨n1, n2, n3⟩ := h.ne_file hm
  have hrow : (crF k f v').v.ownBlock = none ∨ (crF k f v').v.ownBlock = f.v.ownBlock ∨ ∃ j, (crF k f v').v.ownBlock = some j ∧ w.heap.size ≤ j := Or.inr (Or.inl hb)
  have hk : ∀ i, i ≠ f.g → ((w.setCell ⟨f.g, 1, none⟩ (.int .i64 ((f.syn + kn k (f.bytes.length - f.syn) : Nat) : Int))).setCell ⟨f.g, 0, none⟩ v').heap[i]? = w.heap[i]? := fun i hi => by
    rw [Below.heap_setCell _ _ _ _ hi, Below.heap_setCell _ _ _ _ hi]
  have hle := kn_le k (f.bytes.length - f.syn)
  have hsy := hF.syn
  have g2 := grown_trans (grown_setCell w f.g 1 (.int .i64 ((f.syn + kn k (f.bytes.length - f.syn) : Nat) : Int))) (grown_setCell _ f.g 0 v')
  have hne : v'.ownBlock ≠ some f.g := by rw [hb]; exact n3 f hm
  refine ⟨h.write (f' := crF k f v') e rfl rfl ⟨?_, hv.kept g2 (Or.inr hne), ?_, hF.nm⟩ hrow (fun i _ hi _ _ => hk i hi) ((hk d (fun e => n1 e.symm)).trans h.blk), Kp.of_grown g2 (Or.inr (Or.inr ⟨f, hm, Or.inl rfl⟩)), fun i hi => Ft.write (f' := crF k f v') h.srt e rfl hrow hi⟩
  · have b1 := block_set hF.blk 1 (.int .i64 ((f.syn + kn k (f.bytes.length - f.syn) : Nat) : Int))
    show ((w.setCell ⟨f.g, 1, none⟩ _).setCell ⟨f.g, 0, none⟩ v').heap[f.g]? = _
    rw [block_set b1 0]; rfl
  · show f.syn + kn k (f.bytes.length - f.syn) ≤ (f.bytes.take _).length
    rw [List.length_take]; omega

set_option maxHeartbeats 4000000 in
set_option maxRecDepth 100000 in
theorem crash_walk (g b cap n sy : Nat) (k : Int) (w : World) (c0 : w.cell? ⟨g, 0, none⟩ = some (.slice (some ⟨b, 0, none⟩) n cap)) (c1 : w.cell? ⟨g, 1, none⟩ = some (.int .i64 (sy : Int)))
    (f0 : w.frozen? ⟨g, 0, none⟩ = false) (f1 : w.frozen? ⟨g, 1, none⟩ = false) (hs : sy ≤ n) (hn : n ≤ cap) (hcap : n ≤ 140737488355328) :
    Calls Tryd.prog 18 #[.pointer (some ⟨g, 0, none⟩), .int .i64 k] w fun e w' => e = .returned (.int .i64 ((n - sy - kn k (n - sy) : Nat) : Int)) ∧
      w' = (((w.setCell ⟨g, 1, none⟩ (.int .i64 ((sy + kn k (n - sy) : Nat) : Int))).setCell ⟨g, 0, none⟩ (.slice (some ⟨b, 0, none⟩) (sy + kn k (n - sy)) cap))).drew.drew := by
  have hle := kn_le k (n - sy)
  have hu : (((n - sy : Nat) : Int)) = (n : Int) - (sy : Int) := by omega
  by_cases hneg : k.tmod (((n - sy : Nat) : Int) + 1) < 0
  · have hkn := kn_neg hneg
    rw [hu] at hneg hkn
    go_enter Tryd.func18, Tryd.ntmps18
    go_wp2_with fail
    go_region
    go_wp2_with fail
    simp only [← hkn]
    generalize hz : kn k (n - sy) = z at *
    clear hneg hkn
    go_region
    go_wp2
    go_ret
    subst hz
    have e1 : (n : Int) - (sy : Int) - ((kn k (n - sy) : Nat) : Int) = ((n - sy - kn k (n - sy) : Nat) : Int) := by omega
    refine ⟨?_, ?_⟩
    · show Ending.returned (.int .i64 ((n : Int) - (sy : Int) - ((kn k (n - sy) : Nat) : Int))) = _
      rw [e1]
    · rw [Int.natCast_add]
  · have hkn := kn_pos hneg
    rw [hu] at hneg hkn
    go_enter Tryd.func18, Tryd.ntmps18
    go_wp2_with fail
    go_region
    go_wp2_with fail
    simp only [← hkn]
    generalize hz : kn k (n - sy) = z at *
    clear hneg hkn
    go_region
    go_wp2
    go_ret
    subst hz
    have e1 : (n : Int) - (sy : Int) - ((kn k (n - sy) : Nat) : Int) = ((n - sy - kn k (n - sy) : Nat) : Int) := by omega
    refine ⟨?_, ?_⟩
    · show Ending.returned (.int .i64 ((n : Int) - (sy : Int) - ((kn k (n - sy) : Nat) : Int))) = _
      rw [e1]
    · rw [Int.natCast_add]

set_option maxHeartbeats 4000000 in
set_option maxRecDepth 100000 in
theorem crash_nil (g : Nat) (k : Int) (w : World) (c0 : w.cell? ⟨g, 0, none⟩ = some (.slice none 0 0)) (c1 : w.cell? ⟨g, 1, none⟩ = some (.int .i64 0))
    (f0 : w.frozen? ⟨g, 0, none⟩ = false) (f1 : w.frozen? ⟨g, 1, none⟩ = false) :
    Calls Tryd.prog 18 #[.pointer (some ⟨g, 0, none⟩), .int .i64 k] w fun e w' => e = .returned (.int .i64 0) ∧
      w' = (((w.setCell ⟨g, 1, none⟩ (.int .i64 0)).setCell ⟨g, 0, none⟩ (.slice none 0 0))).drew.drew := by
  have h1 : k.tmod 1 = 0 := Int.tmod_one k
  go_enter Tryd.func18, Tryd.ntmps18
  go_wp2_with fail
  go_region
  go_wp2_with fail
  go_region
  go_wp2
  go_ret
  exact ⟨rfl, rfl⟩

theorem Stp.drew {w w' : World} {d m : Nat} {L L' : List Fl} {x y : Nat} (h : Stp w w' d m L L' x y) : Stp w w'.drew d m L L' x y := ⟨h.dk.drew, h.kp.drew, h.ft⟩
theorem crash_any {d m fr N : Nat} {L : List Fl} (k : Int) (w : World) (h : Dk w d m L fr N) {f : Fl} (e : lk f.name L = some f) (hb : f.bytes.length ≤ 140737488355328) :
    Calls Tryd.prog 18 #[.pointer (some ⟨f.g, 0, none⟩), .int .i64 k] w fun e w' => e = .returned (.int .i64 ((f.bytes.length - f.syn - kn k (f.bytes.length - f.syn) : Nat) : Int)) ∧ ∃ v', Stp w w' d m L (wth (crF k f v') L) fr N := by
  obtain ⟨hm, _⟩ := lk_some e
  have hF := h.fl f hm
  have c0 := (cells_block hF.blk).1 0
  have c1 := (cells_block hF.blk).1 1
  have f0 := (cells_block hF.blk).2 0
  have f1 := (cells_block hF.blk).2 1
  have hle := kn_le k (f.bytes.length - f.syn)
  have hsy := hF.syn
  rcases hF.own.2 with ⟨hv, h0⟩ | ⟨b, cap, cur, hv, _, hbk, hnc, hcm, _⟩
  · have hs0 : f.syn = 0 := by omega
    have e0 : kn k (f.bytes.length - f.syn) = 0 := by omega
    have e1 : f.bytes.length - f.syn - kn k (f.bytes.length - f.syn) = 0 := by omega
    have hc := h.cut e k (.slice none 0 0) (by
      show w.ownsRow 0 _ 1 _ (f.bytes.take _).length (Lib.byteCells (f.bytes.take _))
      have : f.bytes = [] := List.eq_nil_of_length_eq_zero h0
      rw [this]
      simp only [List.take_nil]
      exact World.ownsRow_nil _ _ _ _) (by rw [hv])
    rw [e0, hs0] at hc
    rw [e1]
    refine (crash_nil f.g k w (by rw [c0, ← hv]; rfl) (by rw [c1]; simp [hs0]) f0 f1).mono ?_
    rintro e w' ⟨rfl, rfl⟩
    exact ⟨rfl, _, hc.drew.drew⟩
  · have hc := h.cut e k (.slice (some ⟨b, 0, none⟩) (f.syn + kn k (f.bytes.length - f.syn)) cap) (by
      have := hF.own
      rw [hv] at this
      exact own_take this (by omega) (by simp)) (by rw [hv]; rfl)
    refine (crash_walk f.g b cap f.bytes.length f.syn k w (by rw [c0, ← hv]; rfl) (by rw [c1]; rfl) f0 f1 hsy hnc hb).mono ?_
    rintro e w' ⟨rfl, rfl⟩
    exact ⟨rfl, _, hc.drew.drew⟩

end Go.Proofs.YtnfnlfdplnekgaaDoor.Ds

namespace Go.Proofs.YtnfnlfdplnekgaaDoor.Ds
open Go.RowKit
open Go.Sort (Holds grow putRow)

theorem wth_set {f' : Fl} : ∀ {L : List Fl}, Srt L → ∀ (i : Nat) (hi : i < L.length), f'.name = L[i].name → wth f' L = L.set i f'
  | [], _, i, hi, _ => by simp at hi
  | y :: r, _, 0, _, e => by
    simp only [List.getElem_cons_zero] at e
    simp [wth, ← e, lt_irr]
  | y :: r, h, i + 1, hi, e => by
    obtain ⟨h1, h2⟩ := List.pairwise_cons.1 h
    simp only [List.getElem_cons_succ] at e
    have hlt : y.name < f'.name := by rw [e]; exact h1 _ (List.getElem_mem _)
    simp only [wth, if_pos hlt, List.set_cons_succ]
    rw [wth_set h2 i (by simpa using hi) e]

/-- What is kept of the j-th file. -/
def kAt (ks : List Int) (j : Nat) : Int := ks.getD j 0
/-- The first i files are as a loss of power left them; the others are as they were. -/
structure Cr (ks : List Int) (i : Nat) (L L' : List Fl) : Prop where
  len : L'.length = L.length
  old : ∀ j (h : j < L.length), j < i → ∃ v', L'[j]'(by rw [len]; exact h) = crF (kAt ks j) L[j] v'
  new : ∀ j (h : j < L.length), i ≤ j → L'[j]'(by rw [len]; exact h) = L[j]
theorem Cr.start (ks : List Int) (L : List Fl) : Cr ks 0 L L := ⟨rfl, fun _ _ h => absurd h (Nat.not_lt_zero _), fun _ _ _ => rfl⟩
theorem Cr.nms {ks : List Int} {i : Nat} {L L' : List Fl} (h : Cr ks i L L') : nms L' = nms L := by
  apply List.ext_getElem
  · simp [Go.Proofs.YtnfnlfdplnekgaaDoor.Ds.nms, h.len]
  · intro j h1 h2
    have hj : j < L.length := by simpa [Go.Proofs.YtnfnlfdplnekgaaDoor.Ds.nms] using h2
    simp only [Go.Proofs.YtnfnlfdplnekgaaDoor.Ds.nms, List.getElem_map]
    by_cases hi : j < i
    · obtain ⟨v', e⟩ := h.old j hj hi
      rw [e]; rfl
    · rw [h.new j hj (by omega)]
theorem Cr.step {ks : List Int} {i : Nat} {L L' : List Fl} (h : Cr ks i L L') (hs : Srt L') (hi : i < L.length) (v' : Value) : Cr ks (i + 1) L (wth (crF (kAt ks i) L[i] v') L') := by
  have hi' : i < L'.length := by rw [h.len]; exact hi
  have e := h.new i hi (Nat.le_refl _)
  have hw : wth (crF (kAt ks i) L[i] v') L' = L'.set i (crF (kAt ks i) L[i] v') := wth_set hs i hi' (by rw [e]; rfl)
  have hl : (wth (crF (kAt ks i) L[i] v') L').length = L.length := by rw [hw, List.length_set, h.len]
  refine ⟨hl, fun j hj hlt => ?_, fun j hj hle => ?_⟩
  · simp only [hw, List.getElem_set]
    by_cases hji : i = j
    · subst hji
      exact ⟨v', by simp⟩
    · rw [if_neg hji]
      exact h.old j hj (by omega)
  · simp only [hw, List.getElem_set]
    rw [if_neg (by omega)]
    exact h.new j hj (by omega)
theorem lst_nil (L : List Fl) : lst [] L = nms L := by
  unfold lst
  exact List.filter_eq_self.2 fun _ _ => by simp
theorem srt_at {L : List Fl} (h : Srt L) {i : Nat} (hi : i < L.length) : lk L[i].name L = some L[i] := lk_mem h (List.getElem_mem _)
theorem crF_len (k : Int) (f : Fl) (v' : Value) (_h : f.syn ≤ f.bytes.length) : (crF k f v').bytes.length + (f.bytes.length - f.syn - kn k (f.bytes.length - f.syn)) = f.bytes.length := by
  have := kn_le k (f.bytes.length - f.syn)
  show (f.bytes.take _).length + _ = _
  rw [List.length_take]; omega
/-- A slice of numbers, as an argument; it lies in none of the blocks of which S speaks. -/
def KArg (w : World) (q : Option Addr) (ks : List Int) (S : Nat → Prop) : Prop := 0 < ks.length → ∃ b off, q = some ⟨b, off, none⟩ ∧ b < w.heap.size ∧ ¬ S b ∧ ∀ i (h : i < ks.length), w.cell? ⟨b, off + i, none⟩ = some (.int .i64 ks[i])
/-- A row of another kind is left as it was. -/
theorem own_kept {w w' : World} {d m fr N : Nat} {L : List Fl} (h : Dk w d m L fr N) (hk : Kp w w' (Ft d m L)) {B e sz : Nat} {v : Value} {n : Nat} {xs : List Value} (ho : w.ownsRow B e sz v n xs)
    (ht : e ≠ 45 ∧ e ≠ 80 ∧ e ≠ 5) : w'.ownsRow B e sz v n xs := by
  refine ⟨ho.1, ?_⟩
  rcases ho.2 with a | ⟨g, cap, cur, a1, a2, a3, a4⟩
  · exact Or.inl a
  · exact Or.inr ⟨g, cap, cur, a1, a2, (hk.block g (Array.getElem?_eq_some_iff.1 a3).1 (h.other a3 ht)).trans a3, a4⟩

theorem Stp.of_drew {w w' : World} {d m : Nat} {L L' : List Fl} {x y : Nat} (h : Stp w.drew w' d m L L' x y) : Stp w w' d m L L' x y := ⟨h.dk, ⟨h.kp.os, h.kp.tape, h.kp.output, h.kp.size, h.kp.block⟩, h.ft⟩
theorem Stp.free {w w' : World} {d m : Nat} {L L' : List Fl} {x y : Nat} (h : Stp w w' d m L L' x y) (x' : Nat) : Stp w (w'.setCell ⟨d, 0, none⟩ (.int .i64 (x' : Int))) d m L L' x' y :=
  ⟨h.dk.free (by rw [block_set h.dk.blk 0]; rfl) (fun i _ hi => Below.heap_setCell _ _ _ _ hi), h.kp.trans (Kp.of_grown (S := fun i => i = d) (grown_setCell w' d 0 _) rfl) (fun i hi => Or.inl (Or.inl hi)), h.ft⟩
theorem own_kept1 {w w' : World} {k : Nat} (hg : w.grownBy w' (some k)) {t : TypeId} {cur : Array Value} (hk : w.heap[k]? = some (.cells cur t (0, 0))) {B e sz : Nat} {v : Value} {n : Nat} {xs : List Value} (ho : w.ownsRow B e sz v n xs) (ht : e ≠ t) : w'.ownsRow B e sz v n xs := by
  refine ⟨ho.1, ?_⟩
  rcases ho.2 with a | ⟨g, cap, cur', a1, a2, a3, a4⟩
  · exact Or.inl a
  · refine Or.inr ⟨g, cap, cur', a1, a2, (hg.block g (Array.getElem?_eq_some_iff.1 a3).1 (fun e => ?_)).trans a3, a4⟩
    cases e
    rw [hk] at a3
    cases a3
    exact ht rfl

set_option maxHeartbeats 8000000 in
set_option maxRecDepth 100000 in
theorem Crash_any {d m fr N : Nat} {L : List Fl} (q : Option Addr) (cap : Nat) (ks : List Int) (w : World) (h : Dk w d m L fr N) (hN : N ≤ 1099511627776) (hq : KArg w q ks (Ft d m L)) (hfit : fr + tot L ≤ 9223372036854775807) (hb : tot L ≤ 140737488355328) :
    Calls Tryd.prog 7 #[.pointer (some ⟨d, 0, none⟩), .slice q ks.length cap] w fun e w' => e = .returned (.tuple #[]) ∧ ∃ L' fr', Cr ks L.length L L' ∧ fr' + tot L' = fr + tot L ∧ Stp w w' d m L L' fr' N := by
  have hL := List_any [] w h hN
  rw [lst_nil] at hL
  have hlen : (nms L).length = L.length := by simp [nms]
  have hLN := h.len
  go_enter Tryd.func7, Tryd.ntmps7
  go_wp2_with fail
  refine hL.mono ?_
  rintro e w1 ⟨v0, rfl, hrow0, hb1⟩
  have hS1 : Stp w w1 d m L L fr N := (Stp.refl h).below hb1
  have hshape : ∃ q0 cap0, v0 = .slice q0 L.length cap0 ∧ ∀ i, i < L.length → ∃ g, q0 = some ⟨g, 0, none⟩ ∧ w.heap.size ≤ g ∧ L.length ≤ cap0 := by
    rcases hrow0.2 with ⟨rfl, h0⟩ | ⟨g, cap0, cur, rfl, a1, a2, a3, a4⟩
    · exact ⟨none, 0, by rw [← hlen, h0], fun i hi => by omega⟩
    · exact ⟨_, cap0, by rw [hlen], fun i hi => ⟨g, rfl, a1, by omega⟩⟩
  obtain ⟨q0, cap0, rfl, hq0⟩ := hshape
  clear hL
  go_wp2_with fail
  go_loopw [10] (fun s10 wr => ∃ (i : Nat) (L' : List Fl) (fr' : Nat), s10 = .int .i64 (i : Int) ∧ i ≤ L.length ∧ Cr ks i L L' ∧ Hid (fr' + tot L' = fr + tot L) ∧ Stp w wr d m L L' fr' N ∧ wr.ownsRow w.heap.size 9 1 (.slice q0 L.length cap0) (nms L).length ((nms L).map encStr)) (fun s10 _ => L.length - (intOf s10).toNat)
  case atStart => exact ⟨0, L, fr, rfl, Nat.zero_le _, Cr.start ks L, rfl, hS1, hrow0⟩
  case round =>
    obtain ⟨i, L', fr', rfl, hi, hC, hsum, hS, hrow⟩ := hrel
    clear hS1 hrow0 hb1
    by_cases hge : ¬ i < L.length
    · have hie : i = L.length := by omega
      subst hie
      go_wp2
      go_end0
      exact ⟨rfl, L', fr', hC, hsum.out, hS⟩
    have hlt : i < L.length := by omega
    clear hge
    have hD := hS.dk
    have hi' : i < L'.length := by rw [hC.len]; exact hlt
    have e := hC.new i hlt (Nat.le_refl _)
    have hlki : lk L[i].name L' = some L[i] := by have := srt_at hD.srt hi'; rw [e] at this; exact this
    obtain ⟨hm, _⟩ := lk_some hlki
    have hF := hD.fl _ hm
    have hlook := hD.drew.look (s := L[i].name) (by have := hF.nm.2; unfold maxLen; omega)
    rw [hlki] at hlook
    simp only [pv] at hlook
    have d0 : wr.cell? ⟨d, 0, none⟩ = some (.int .i64 (fr' : Int)) := (cells_block hD.blk).1 0
    have d1 : wr.cell? ⟨d, 1, none⟩ = some (.map (some m)) := (cells_block hD.blk).1 1
    have df : wr.frozen? ⟨d, 0, none⟩ = false := (cells_block hD.blk).2 0
    obtain ⟨g0, rfl, hg0, hc0⟩ := hq0 i hlt
    have hnm : wr.cell? ⟨g0, i, none⟩ = some (.string (bstr L[i].name)) := by
      have := hrow.cells (g := g0) rfl i (encStr L[i].name) (by simp [nms, hlt])
      rw [Addr.add_lit] at this
      rw [Nat.zero_add] at this
      exact this
    have hbi : L[i].bytes.length ≤ 140737488355328 := by
      have h1 : L[i].bytes.length ≤ tot L := tot_mem (List.getElem_mem _)
      omega
    have hkc : i < ks.length → ∃ b off, q = some ⟨b, off, none⟩ ∧ wr.cell? ⟨b, off + i, none⟩ = some (.int .i64 (kAt ks i)) := fun hk => by
      obtain ⟨b, off, h1, h2, h3, h4⟩ := hq (by omega)
      refine ⟨b, off, h1, ?_⟩
      have := h4 i hk
      rw [World.cell?_of_block (a := ⟨b, off + i, none⟩) (hS.kp.block b h2 h3), this]
      simp [kAt, hk]
    have hk0 : ¬ i < ks.length → kAt ks i = 0 := fun hk => by simp [kAt, hk]
    have hcr := crash_any (kAt ks i) wr.drew hD.drew hlki hbi
    have hll := crF_len (kAt ks i) L[i]
    generalize hlo : (L[i].bytes.length - L[i].syn - kn (kAt ks i) (L[i].bytes.length - L[i].syn) : Nat) = lo at hcr hll
    have htot := hsum.out
    have hmem := tot_mem hm
    have hlol : lo ≤ L[i].bytes.length := by omega
    have hb9 : fr' + lo ≤ 9223372036854775807 := by omega
    have hwr : ((fr' : Int) + (lo : Int)) = ((fr' + lo : Nat) : Int) := by omega
    have fin : ∀ (v' : Value) (w2 : World), Stp wr.drew w2 d m L' (wth (crF (kAt ks i) L[i] v') L') fr' N → ∃ L2, Cr ks (i + 1) L L2 ∧ Hid (fr' + lo + tot L2 = fr + tot L) ∧ Stp w (w2.setCell ⟨d, 0, none⟩ (.int .i64 ((fr' + lo : Nat) : Int))) d m L L2 (fr' + lo) N ∧ (w2.setCell ⟨d, 0, none⟩ (.int .i64 ((fr' + lo : Nat) : Int))).ownsRow w.heap.size 9 1 (.slice (some ⟨g0, 0, none⟩) L.length cap0) (nms L).length ((nms L).map encStr) := fun v' w2 hS2 => by
      refine ⟨_, hC.step hD.srt hlt v', ?_, (hS.trans hS2.of_drew).free _, own_kept1 (grown_setCell w2 d 0 _) hS2.dk.blk (own_kept hD.drew hS2.kp hrow (by decide)) (by decide)⟩
      have h1 := tot_wth_old (f := crF (kAt ks i) L[i] v') (o := L[i]) hD.srt hlki
      have h2 := hll v' hF.syn
      show fr' + lo + _ = _
      omega
    clear hC hsum hS hrow hD hF hm hlki hll hmem htot hlol hlo hq h e hi'
    have HW : Hid (((fr' : Int) + (lo : Int)) = ((fr' + lo : Nat) : Int)) := hwr
    clear hwr
    generalize L[i].name = nm at *
    generalize L[i].g = gg at *
    by_cases hk : i < ks.length
    · obtain ⟨b, off, rfl, hkc⟩ := hkc hk
      clear hk0
      generalize kAt ks i = kk at *
      go_wp2_with fail
      go_region_with ((go_at_call 18; refine hcr.mono ?_; rintro e w2 ⟨rfl, v', hS2⟩; clear d0 d1 df; have hD2 := hS2.dk; have d0 : w2.cell? ⟨d, 0, none⟩ = some (.int .i64 (fr' : Int)) := (cells_block hD2.blk).1 0; have d1 : w2.cell? ⟨d, 1, none⟩ = some (.map (some m)) := (cells_block hD2.blk).1 1; have df : w2.frozen? ⟨d, 0, none⟩ = false := (cells_block hD2.blk).2 0; obtain ⟨L2, k1, k2, k3, k4⟩ := fin v' w2 hS2; clear hS2 hD2 fin hcr))
      all_goals
        rw [← HW.out] at k3 k4
        clear d0 d1 df
        go_wp2
        go_roundw
        case rel => exact ⟨i + 1, L2, fr' + lo, by simp, hlt, k1, k2, k3, k4⟩
        case measure => simp [intOf]; omega
    · have hk1 := hk0 hk
      clear hk0 hkc
      generalize kAt ks i = kk at *
      subst hk1
      go_wp2_with fail
      go_region_with ((go_at_call 18; refine hcr.mono ?_; rintro e w2 ⟨rfl, v', hS2⟩; clear d0 d1 df; have hD2 := hS2.dk; have d0 : w2.cell? ⟨d, 0, none⟩ = some (.int .i64 (fr' : Int)) := (cells_block hD2.blk).1 0; have d1 : w2.cell? ⟨d, 1, none⟩ = some (.map (some m)) := (cells_block hD2.blk).1 1; have df : w2.frozen? ⟨d, 0, none⟩ = false := (cells_block hD2.blk).2 0; obtain ⟨L2, k1, k2, k3, k4⟩ := fin v' w2 hS2; clear hS2 hD2 fin hcr))
      all_goals
        rw [← HW.out] at k3 k4
        clear d0 d1 df
        go_wp2
        go_roundw
        case rel => exact ⟨i + 1, L2, fr' + lo, by simp, hlt, k1, k2, k3, k4⟩
        case measure => simp [intOf]; omega

end Go.Proofs.YtnfnlfdplnekgaaDoor.Ds
