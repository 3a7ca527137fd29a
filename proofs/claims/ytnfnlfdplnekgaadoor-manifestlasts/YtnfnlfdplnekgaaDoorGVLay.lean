/-
  counts, howMany, mayBe, lay, files: the small functions of a state.
  mayBe, lay, files: what hangs on one file, a file's bytes, the iterator of a state.
  lay, files: a file's bytes, the iterator over all files.
-/
import Derived.Test.YtnfnlfdplnekgaaDoorVMem
import Derived.Test.YtnfnlfdplnekgaaDoorGZMem
import Derived.Lib.QuietBelow
import Derived.BigQuiet
namespace Go.Proofs.YtnfnlfdplnekgaaDoor
open Go.RowKit Go.BigFrame Go.Sort
attribute [local go_sem] size_bstr toList_bstr

theorem vcb {w : World} {g : Nat} {cur : Array Value} {t : TypeId} (h : w.heap[g]? = some (.cells cur t (0, 0))) : (∀ o, w.cell? ⟨g, o, none⟩ = cur[o]?) ∧ ∀ o, w.frozen? ⟨g, o, none⟩ = false :=
  ⟨fun o => by simp [World.cell?, h], fun o => by simp [World.frozen?, h]⟩
theorem below_setv {B : Nat} {w w' : World} (h : Below B w w') {g o : Nat} (hg : B ≤ g) (v : Value) : Below B w (w'.setCell ⟨g, o, none⟩ v) :=
  h.setCell (by show B ≤ g; exact hg) v
theorem below_putv {B : Nat} {w w' : World} (h : Below B w w') {g : Nat} (hg : B ≤ g) (o : Obj) : Below B w (w'.putObj g o) :=
  ⟨h.os, h.tape, h.output, Nat.le_trans h.size (by simp), fun i hi => (World.putObj_heap_other (by omega)).trans (h.block i hi)⟩
theorem below2v {a b c : World} {B : Nat} (h : Below B a b) (k : Below b.heap.size b c) (hB : B ≤ b.heap.size) : Below B a c :=
  ⟨k.os.trans h.os, k.tape.trans h.tape, k.output.trans h.output, Nat.le_trans h.size k.size, fun i hi => (k.block i (by omega)).trans (h.block i hi)⟩

/-- A number of a state. -/
def cntB (n : Nat) : Bool := decide (1 ≤ n) && decide (n ≤ 1099511627776)
set_option maxHeartbeats 1000000 in
theorem counts_any (n : Nat) (w : World) : Calls Tryd.prog 41 #[.int .u64 (n : Int)] w fun e w' => e = .returned (.bool (cntB n)) ∧ w' = w := by
  unfold cntB
  by_cases h1 : 1 ≤ n
  · have h1i : (1 : Int) ≤ (n : Int) := by omega
    rw [decide_eq_true h1]
    by_cases h2 : n ≤ 1099511627776
    · have h2i : (n : Int) ≤ 1099511627776 := by omega
      rw [decide_eq_true h2]
      go_enter Tryd.func41, Tryd.ntmps41
      go_wp2
      go_ret
      exact ⟨rfl, rfl⟩
    · have h2i : ¬ (n : Int) ≤ 1099511627776 := by omega
      rw [decide_eq_false h2]
      go_enter Tryd.func41, Tryd.ntmps41
      go_wp2
      go_ret
      exact ⟨rfl, rfl⟩
  · have h1i : ¬ (1 : Int) ≤ (n : Int) := by omega
    rw [decide_eq_false h1]
    go_enter Tryd.func41, Tryd.ntmps41
    go_wp2
    go_ret
    exact ⟨rfl, rfl⟩

/-- How many files there are in all. -/
def many (lv : List (List Fi)) : Nat := (lv.map List.length).sum
theorem many_take {lv : List (List Fi)} {i : Nat} (h : i < lv.length) : many (lv.take (i + 1)) = many (lv.take i) + lv[i].length := by
  unfold many
  rw [List.take_add_one, List.getElem?_eq_getElem h, List.map_append, List.sum_append]
  simp
theorem many_take_le (lv : List (List Fi)) (i : Nat) : many (lv.take i) ≤ many lv := by
  unfold many
  conv => rhs; rw [← List.take_append_drop i lv, List.map_append, List.sum_append]
  omega
set_option maxHeartbeats 1000000 in
theorem howMany_any (v : Value) (vs : List Value) (lv : List (List Fi)) (w : World) (hL : LArg w v vs lv) (hm : many lv ≤ 1000000000000) (hn : lv.length ≤ 1000000000000) : Calls Tryd.prog 42 #[v] w fun e w' => e = .returned (.int .i64 (many lv : Int)) ∧ w' = w := by
  obtain ⟨q, cap, hv, hc, hr⟩ := id hL.sl
  have HL : Hid _ := hL
  subst hv
  clear hL
  go_enter Tryd.func42, Tryd.ntmps42
  go_wp2
  go_loopw [3, 8] (fun s3 s8 wr => ∃ i : Nat, s8 = .int .i64 (i : Int) ∧ i ≤ lv.length ∧ s3 = .int .i64 (many (lv.take i) : Int) ∧ wr = w) (fun _ s8 _ => lv.length - (intOf s8).toNat)
  case atStart => exact ⟨0, rfl, by omega, rfl, rfl⟩
  case round =>
    obtain ⟨i, rfl, hil, rfl, rfl⟩ := hrel
    by_cases hlt : i < lv.length
    · obtain ⟨b, off, cap', u, hq, hu, c0, hA⟩ := HL.out.at_ hlt
      obtain ⟨q2, cap2, rfl, hc2, _⟩ := hA.sl
      cases hq
      have hiz : (i : Int) < (lv.length : Int) := by omega
      have hmt := many_take hlt
      have hml := many_take_le lv (i + 1)
      have HE : Hid (wrap64 ((many (lv.take i) : Int) + (lv[i].length : Int)) = (many (lv.take (i + 1)) : Int)) := by
        show _ = _
        rw [hmt]
        unfold wrap64
        omega
      generalize lv[i].length = ln at *
      clear hmt hml
      obtain ⟨m1, hm1⟩ : ∃ m1, m1 = many (lv.take (i + 1)) := ⟨_, rfl⟩
      rw [← hm1] at HE
      have HM : Hid _ := hm1
      clear hm1
      generalize many (lv.take i) = m0 at *
      go_wp2
      go_roundw
      case rel => exact ⟨i + 1, by go_num, by omega, by rw [HE.out, HM.out], by first | rfl | trivial⟩
      case measure => simp [intOf]; omega
    · have hiz : ¬ (i : Int) < (lv.length : Int) := by omega
      have e : lv.take i = lv := List.take_of_length_le (by omega)
      rw [e]
      go_wp2
      go_ret
      exact ⟨rfl, rfl⟩

end Go.Proofs.YtnfnlfdplnekgaaDoor

namespace Go.Proofs.YtnfnlfdplnekgaaDoor
open Go.RowKit Go.BigFrame Go.Sort
attribute [local go_sem] size_bstr toList_bstr ls_def

/-- A file may be, by itself. -/
def mayF (f : Fi) : Bool := decide (1 ≤ f.id) && ((ls f.low f.high || f.low == f.high) && (decide (max f.low.length f.high.length ≤ 32) && (decide (1 ≤ f.n) && decide (f.n ≤ 1073741824))))
/-- A file's bytes. -/
def layF (f : Fi) : List UInt8 := Lib.uvarint f.id ++ (txt f.low ++ (txt f.high ++ Lib.uvarint f.n.toNat))

set_option maxHeartbeats 2000000 in
theorem mayBe_any (f : Fi) (w : World) : Calls Tryd.prog 43 #[fiV f] w fun e w' => e = .returned (.bool (mayF f)) ∧ Below w.heap.size w w' := by
  obtain ⟨id, low, high, n⟩ := f
  show Calls Tryd.prog 43 #[.agg #[.int .u64 (id : Int), .string (bstr low), .string (bstr high), .int .i64 n]] w fun e w' => e = .returned (.bool (decide (1 ≤ id) && ((ls low high || low == high) && (decide (max low.length high.length ≤ 32) && (decide (1 ≤ n) && decide (n ≤ 1073741824)))))) ∧ Below w.heap.size w w'
  have hB : Below w.heap.size w (w.alloc (.cells #[.int .u64 (id : Int), .string (bstr low), .string (bstr high), .int .i64 n] 48)) := (Below.refl _ _).alloc (Nat.le_refl _) _
  obtain ⟨c0, c1, c2, c3⟩ := FAt.new w 48 ⟨id, low, high, n⟩
  simp only [Nat.zero_add] at c0 c1 c2 c3
  by_cases h1 : 1 ≤ id
  · rw [decide_eq_true h1]
    have h1i : (1 : Int) ≤ (id : Int) := by omega
    cases h2 : (ls low high || low == high) with
    | true =>
      by_cases h3 : max low.length high.length ≤ 32
      · rw [decide_eq_true h3]
        have h3i : max (low.length : Int) (high.length : Int) ≤ 32 := by omega
        by_cases h4 : 1 ≤ n
        · rw [decide_eq_true h4]
          by_cases h5 : n ≤ 1073741824
          · rw [decide_eq_true h5]
            go_enter Tryd.func43, Tryd.ntmps43
            go_wp2_with fail
            generalize w.alloc (.cells #[.int .u64 (id : Int), .string (bstr low), .string (bstr high), .int .i64 n] 48) = W at *
            go_wp2
            go_ret
            exact ⟨rfl, hB⟩
          · rw [decide_eq_false h5]
            have h5i : ¬ n ≤ 1073741824 := h5
            go_enter Tryd.func43, Tryd.ntmps43
            go_wp2_with fail
            generalize w.alloc (.cells #[.int .u64 (id : Int), .string (bstr low), .string (bstr high), .int .i64 n] 48) = W at *
            go_wp2
            go_ret
            exact ⟨rfl, hB⟩
        · rw [decide_eq_false h4]
          have h4i : ¬ 1 ≤ n := h4
          go_enter Tryd.func43, Tryd.ntmps43
          go_wp2_with fail
          generalize w.alloc (.cells #[.int .u64 (id : Int), .string (bstr low), .string (bstr high), .int .i64 n] 48) = W at *
          go_wp2
          go_ret
          exact ⟨rfl, hB⟩
      · rw [decide_eq_false h3]
        have h3i : ¬ max (low.length : Int) (high.length : Int) ≤ 32 := by omega
        go_enter Tryd.func43, Tryd.ntmps43
        go_wp2_with fail
        generalize w.alloc (.cells #[.int .u64 (id : Int), .string (bstr low), .string (bstr high), .int .i64 n] 48) = W at *
        go_wp2
        go_ret
        exact ⟨rfl, hB⟩
    | false =>
      go_enter Tryd.func43, Tryd.ntmps43
      go_wp2_with fail
      generalize w.alloc (.cells #[.int .u64 (id : Int), .string (bstr low), .string (bstr high), .int .i64 n] 48) = W at *
      go_wp2
      go_ret
      exact ⟨rfl, hB⟩
  · rw [decide_eq_false h1]
    have h1i : ¬ (1 : Int) ≤ (id : Int) := by omega
    go_enter Tryd.func43, Tryd.ntmps43
    go_wp2_with fail
    generalize w.alloc (.cells #[.int .u64 (id : Int), .string (bstr low), .string (bstr high), .int .i64 n] 48) = W at *
    go_wp2
    go_ret
    exact ⟨rfl, hB⟩

end Go.Proofs.YtnfnlfdplnekgaaDoor

namespace Go.Proofs.YtnfnlfdplnekgaaDoor
open Go.RowKit Go.BigFrame Go.Sort
attribute [local go_sem] size_bstr toList_bstr ls_def

theorem mayF_len {f : Fi} (h : mayF f = true) : 1 ≤ f.id ∧ f.low.length ≤ 32 ∧ f.high.length ≤ 32 ∧ 1 ≤ f.n ∧ f.n ≤ 1073741824 := by
  simp only [mayF, Bool.and_eq_true, decide_eq_true_eq] at h
  omega
theorem layF_len {f : Fi} (h : mayF f = true) (hi : f.id < 18446744073709551616) : (layF f).length ≤ 110 := by
  obtain ⟨h1, h2, h3, h4, h5⟩ := mayF_len h
  have t1 := txt_len (s := f.low) (by omega)
  have t2 := txt_len (s := f.high) (by omega)
  have t3 := Lib.uvarint_length64 (x := f.n.toNat) (by omega)
  have t4 := Lib.uvarint_length64 (x := f.id) (by omega)
  unfold layF
  simp only [List.length_append]
  omega

set_option maxHeartbeats 2000000 in
set_option maxRecDepth 100000 in
theorem mlay_any (f : Fi) (w : World) (hf : mayF f = true) (hi : f.id < 18446744073709551616) :
    Calls Tryd.prog 25 #[fiV f] w fun e w' => e = .returned (.string (bstr (layF f))) ∧ Below w.heap.size w w' := by
  obtain ⟨h1, h2, h3, h4, h5⟩ := mayF_len hf
  clear hf
  obtain ⟨id, low, high, n⟩ := f
  simp only at h1 h2 h3 h4 h5 hi
  have hB : Below w.heap.size w (w.alloc (.cells #[.int .u64 (id : Int), .string (bstr low), .string (bstr high), .int .i64 n] 48)) := (Below.refl _ _).alloc (Nat.le_refl _) _
  have hA := FAt.new w 48 ⟨id, low, high, n⟩
  have t1 := txt_len (s := low) (by omega)
  have t2 := txt_len (s := high) (by omega)
  have t4 := Lib.uvarint_length64 (x := id) (by omega)
  have p1 : ∀ W, Calls Tryd.prog 26 #[.string ⟨#[]⟩, .int .u64 (id : Int)] W fun e w' => e = .returned (.string (bstr (Lib.uvarint id))) ∧ Below W.heap.size W w' := fun W => putNum [] id W (by omega) (by simp)
  have p2 : ∀ W, Calls Tryd.prog 46 #[.string (bstr (Lib.uvarint id)), .string (bstr low)] W fun e w' => e = .returned (.string (bstr (Lib.uvarint id ++ txt low))) ∧ Below W.heap.size W w' := fun W => putText _ low W (by omega) (by omega)
  have p3 : ∀ W, Calls Tryd.prog 46 #[.string (bstr (Lib.uvarint id ++ txt low)), .string (bstr high)] W fun e w' => e = .returned (.string (bstr (Lib.uvarint id ++ txt low ++ txt high))) ∧ Below W.heap.size W w' := fun W => putText _ high W (by rw [List.length_append]; omega) (by omega)
  have p4 : ∀ W, Calls Tryd.prog 26 #[.string (bstr (Lib.uvarint id ++ txt low ++ txt high)), .int .u64 n] W fun e w' => e = .returned (.string (bstr (Lib.uvarint id ++ txt low ++ txt high ++ Lib.uvarint n.toNat))) ∧ Below W.heap.size W w' := by
    intro W
    have := putNum (Lib.uvarint id ++ txt low ++ txt high) n.toNat W (by omega) (by rw [List.length_append, List.length_append]; omega)
    rw [Int.toNat_of_nonneg (by omega)] at this
    exact this
  have hcv : IntKind.u64.wrap n = n := by rw [IntKind.wrap_u64]; omega
  have HL : Hid (layF ⟨id, low, high, n⟩ = Lib.uvarint id ++ txt low ++ txt high ++ Lib.uvarint n.toNat) := by
    show _ = _
    unfold layF
    simp
  clear t1 t2 t4
  generalize layF ⟨id, low, high, n⟩ = L at *
  generalize Lib.uvarint id ++ txt low ++ txt high ++ Lib.uvarint n.toNat = L4 at *
  generalize Lib.uvarint id ++ txt low ++ txt high = L3 at *
  generalize Lib.uvarint id ++ txt low = L2 at *
  generalize Lib.uvarint id = L1 at *
  go_enter Tryd.func25, Tryd.ntmps25
  go_wp2_with fail
  generalize w.alloc (.cells #[.int .u64 (id : Int), .string (bstr low), .string (bstr high), .int .i64 n] 48) = W at *
  have q0 := fun d os => cell_regrown hA.c0 d os
  have q1 := fun d os => cell_regrown hA.c1 d os
  simp only [Nat.zero_add] at q0 q1
  refine wp_region_quiet_below (by kernel_rfl) (by kernel_rfl) ?_
  repeat (go_big_quiet_step (first
    | (go_at_call 26; with_reducible exact Calls.regrown_of (p1 _))
    | (go_at_call 46; with_reducible exact Calls.regrown_of (p2 _))))
  refine wpQuiet_nil ?_
  intro _ hw'
  obtain ⟨⟨dq, osq⟩, hw''⟩ := hw'
  subst hw''
  have hb1 := below_regrown W dq osq
  replace hB := below2 hB hb1
  replace hA := hA.step hb1 hA.lt
  clear q0 q1 hb1
  generalize grow (redrawn W dq) osq = W1 at *
  have q2 := fun d os => cell_regrown hA.c2 d os
  have q3 := fun d os => cell_regrown hA.c3 d os
  simp only [Nat.zero_add] at q2 q3
  go_wp2_with fail
  refine wp_region_quiet_below (by kernel_rfl) (by kernel_rfl) ?_
  repeat (go_big_quiet_step (first
    | (go_at_call 46; with_reducible exact Calls.regrown_of (p3 _))
    | (go_at_call 26; with_reducible exact Calls.regrown_of (p4 _))))
  refine wpQuiet_nil ?_
  intro _ hw'
  obtain ⟨⟨dq2, osq2⟩, hw''⟩ := hw'
  subst hw''
  have hb2 := below_regrown W1 dq2 osq2
  replace hB := below2 hB hb2
  clear q2 q3 hb2
  generalize grow (redrawn W1 dq2) osq2 = W2 at *
  go_wp2
  go_ret
  exact ⟨by rw [HL.out]; rfl, hB⟩

set_option maxHeartbeats 1000000 in
theorem files_any (q : Option Addr) (n cap : Nat) (w : World) :
    Calls Tryd.prog 23 #[.slice q n cap] w fun e w' => e = .returned (.func (.func 44) #[] #[.pointer (some ⟨w.heap.size, 0, none⟩)]) ∧ w'.heap[w.heap.size]? = some (.cells #[.slice q n cap] 26 (0, 0)) ∧ Below w.heap.size w w' := by
  have hmf : ∀ (fn : Fn) (first cap : Array Value) (w : World), (Instr.makeFunc fn first cap).run Tryd.prog w = .ok (.func fn first cap) w := fun _ _ _ _ => rfl
  have hB : Below w.heap.size w (w.alloc (.cells #[.slice q n cap] 26)) := (Below.refl _ _).alloc (Nat.le_refl _) _
  have hn := heap_alloc_new w (.cells #[.slice q n cap] 26)
  go_enter Tryd.func23, Tryd.ntmps23
  go_wp2
  go_ret
  exact ⟨rfl, hn, hB⟩

end Go.Proofs.YtnfnlfdplnekgaaDoor
