/-
  What is written into a strings.Builder stands behind what it had.
  Whole numbers laid, how many first.
-/
import Derived.Test.YtbdbefgfejdbjaaGreatAid
import Derived.Test.YtbdbefgfejdbjaaGreatShelf
import Derived.Lib.Builder
import Derived.Lib.AppendStr
import Derived.Laws.Externs
import Derived.Test.YtbdbefgfejdbjaaGreatOLay0
namespace Go.Proofs.YtbdbefgfejdbjaaGreat
open Go.RowKit

abbrev IsB (B b : Nat) (l : List UInt8) (w : World) : Prop := Lib.IsBuilder 155 5 B b (Lib.byteCells l) w
theorem bld_size : (Tryz.prog.info? 155).map (·.size) = some 2 := by kernel_rfl
theorem bld_lies : liesAt Tryz.prog Tryz.prog.depth 155 (2 / Tryz.prog.cellsOf 155) 0 155 1 = true := by kernel_rfl

set_option maxHeartbeats 1000000 in
set_option maxRecDepth 100000 in
theorem copyCheck_used (b : Nat) (w : World) (h0 : w.cell? ⟨b, 0, none⟩ = some (.pointer (some ⟨b, 0, none⟩))) :
    Calls Tryz.prog 138 #[.pointer (some ⟨b, 0, none⟩)] w fun e w' => e = .returned (.tuple #[]) ∧ w' = w := by
  obtain ⟨j, hj, _⟩ := Option.map_eq_some_iff.1 bld_size
  have hne := fun w => Lib.run_neq_ptr_same (P := Tryz.prog) (w := w) ⟨b, 0, none⟩ Tryz.underlying152 hj
  go_enter Tryz.func138, Tryz.ntmps138
  go_wp2
  go_end0
  exact ⟨rfl, rfl⟩

set_option maxHeartbeats 1000000 in
set_option maxRecDepth 100000 in
theorem copyCheck_fresh (b : Nat) (w : World) (h0 : w.cell? ⟨b, 0, none⟩ = some (.pointer none)) (hsh : w.shape? b = some (155, 2)) (hfz : w.frozen? ⟨b, 0, none⟩ = false) :
    Calls Tryz.prog 138 #[.pointer (some ⟨b, 0, none⟩)] w fun e w' => e = .returned (.tuple #[]) ∧ w' = w.setCell ⟨b, 0, none⟩ (.pointer (some ⟨b, 0, none⟩)) := by
  obtain ⟨j, hj, hjs⟩ := Option.map_eq_some_iff.1 bld_size
  have k1 := Lib.run_to_unsafe (P := Tryz.prog) (w := w) ⟨b, 0, none⟩ Tryz.underlying152 Tryz.underlying186 hj (by rw [hjs]; decide) hsh (Nat.zero_lt_succ 1)
  have k2 := Lib.run_from_unsafe (P := Tryz.prog) (w := w) ⟨b, 0, none⟩ Tryz.underlying186 Tryz.underlying152 hj hsh bld_lies
  have k3 : (callFunc 144 #[.pointer (some ⟨b, 0, none⟩)]).run Tryz.prog w = .ok (.value (.pointer (some ⟨b, 0, none⟩))) w := by
    rw [run_callFunc_extern Tryz.func144 (by kernel_rfl) (by kernel_rfl) (by kernel_rfl) (e := Extern.AbiNoEscape.same) (by kernel_rfl)]
    rfl
  go_enter Tryz.func138, Tryz.ntmps138
  go_wp2
  go_end0
  exact ⟨rfl, rfl⟩

theorem copyCheck_any (B b : Nat) (l : List UInt8) (w : World) (h : IsB B b l w) :
    Calls Tryz.prog 138 #[.pointer (some ⟨b, 0, none⟩)] w fun e w' => e = .returned (.tuple #[]) ∧ (Lib.BuilderAt 155 5 B b (.pointer (some ⟨b, 0, none⟩)) (Lib.byteCells l) w' ∧ Below B w w') := by
  rcases h with h | h
  · refine (copyCheck_fresh b w h.cell0 h.shape h.frozen0).mono ?_
    rintro e w' ⟨rfl, rfl⟩
    exact ⟨rfl, h.used _, (Below.refl B w).setCell (p := ⟨b, 0, none⟩) h.1 _⟩
  · refine (copyCheck_used b w h.cell0).mono ?_
    rintro e w' ⟨rfl, rfl⟩
    exact ⟨rfl, h, Below.refl B _⟩

set_option maxHeartbeats 2000000 in
set_option maxRecDepth 100000 in
theorem WriteString_any (B b : Nat) (l s : List UInt8) (w : World) (h : IsB B b l w) (hlen : l.length + s.length ≤ 140737488355328) (hBw : B ≤ w.heap.size) :
    Calls Tryz.prog 116 #[.pointer (some ⟨b, 0, none⟩), .string (bstr s)] w fun e w' => e = .returned (.tuple #[.int .i64 s.length, .nilIface]) ∧ IsB B b (l ++ s) w' ∧ Below B w w' := by
  obtain ⟨i0, hi, hz0, hz1, hz2⟩ := info_parts Tryz.infoByte
  have hsz := size_bstr s
  go_enter Tryz.func116, Tryz.ntmps116
  go_wp2_with fail
  refine (copyCheck_any B b l _ h).mono ?_
  rintro e w1 ⟨rfl, h1, hb1⟩
  obtain ⟨hB, v, hbk, hown, hne⟩ := h1
  rw [Lib.byteCells_length] at hown
  have c0 : w1.cell? ⟨b, 0, none⟩ = some (.pointer (some ⟨b, 0, none⟩)) := by rw [Lib.cell_of_heap hbk]; rfl
  have c1 : w1.cell? ⟨b, 1, none⟩ = some v := by rw [Lib.cell_of_heap hbk]; rfl
  go_wp2_with (at_builtin; refine Lib.wpList_append_own_string _ rfl _ _ 153 9 rfl B 5 i0 Tryz.underlying153 Tryz.underlying9 hi hz0 hz1 hz2 _ _ _ rfl hown (bstr s) rfl ?c3 ?c4 ?c5 ?_)
  case c3 => unfold maxLen; omega
  case c4 => omega
  case c5 => have := hb1.size; omega
  intro v' w2 hown' hgrow _
  have hlt : b < w1.heap.size := lt_of_block hbk
  have hb2 : w2.heap[b]? = some (.cells #[.pointer (some ⟨b, 0, none⟩), v] 155 (0, 0)) := by
    rw [hgrow.block b hlt (fun e => hne e.symm)]
    exact hbk
  have d0 : w2.cell? ⟨b, 0, none⟩ = some (.pointer (some ⟨b, 0, none⟩)) := by rw [Lib.cell_of_heap hb2]; rfl
  have d1 : w2.cell? ⟨b, 1, none⟩ = some v := by rw [Lib.cell_of_heap hb2]; rfl
  have f1 : w2.frozen? ⟨b, 1, none⟩ = false := Lib.frozen_of_heap hb2 1
  obtain ⟨ao, n', cap, rfl⟩ : ∃ ao n' cap, v' = .slice ao n' cap := by
    rcases hown'.2 with ⟨hv, _⟩ | ⟨g, cap, cur, hv, _⟩
    · exact ⟨_, _, _, hv⟩
    · exact ⟨_, _, _, hv⟩
  go_wp2
  go_ret2
  have hst : Lib.strCells (bstr s) = Lib.byteCells s := by rw [strCells_eq, data_bstr]
  refine ⟨by rw [← hsz]; rfl, .inr ?_, ?_⟩
  · refine Lib.BuilderAt.put (T := 155) (e := 5) hB hb2 (bs' := Lib.byteCells (l ++ s)) ?_ (by decide)
    rw [byteCells_append, List.length_append, Lib.byteCells_length, Lib.byteCells_length, ← hst, ← hsz]
    exact hown'
  · exact (hb1.grown hgrow (by have := hb1.size; omega) (fun k hk => (hown.lt k hk).1)).setCell (p := ⟨b, 1, none⟩) hB _

theorem String_any (B b : Nat) (l : List UInt8) (w : World) (h : IsB B b l w) (hBw : B ≤ w.heap.size) :
    Calls Tryz.prog 117 #[.pointer (some ⟨b, 0, none⟩)] w fun e w' => e = .returned (.string (bstr l)) ∧ Below B w w' :=
  Tryz.Builder_String_any B b l w h hBw

/-- A builder that nothing has been written to. -/
theorem IsB.new (w : World) : IsB w.heap.size w.heap.size [] (w.alloc (.cells #[.pointer none, .slice none 0 0] 155)) :=
  .inl ⟨Nat.le_refl _, .slice none 0 0, heap_alloc_new w _, ⟨rfl, .inl ⟨rfl, rfl⟩⟩, by simp [Value.ownBlock]⟩

theorem IsB.step {B b : Nat} {l : List UInt8} {w w' : World} (h : IsB B b l w) (hb : Below w.heap.size w w') : IsB B b l w' := by
  have go : ∀ p, Lib.BuilderAt 155 5 B b p (Lib.byteCells l) w → Lib.BuilderAt 155 5 B b p (Lib.byteCells l) w' := by
    rintro p ⟨h1, v, h2, h3, h4⟩
    refine ⟨h1, v, (hb.block b (lt_of_block h2)).trans h2, ?_, h4⟩
    rcases h3.2 with h0 | ⟨g, cap, cur, hv, hbg, hg, r⟩
    · exact ⟨h3.1, .inl h0⟩
    · exact ⟨h3.1, .inr ⟨g, cap, cur, hv, hbg, (hb.block g (lt_of_block hg)).trans hg, r⟩⟩
  rcases h with h | h
  · exact .inl (go _ h)
  · exact .inr (go _ h)

end Go.Proofs.YtbdbefgfejdbjaaGreat

namespace Go.Proofs.YtbdbefgfejdbjaaGreat
open Go.RowKit Go.BigFrame
attribute [local go_sem] size_bstr toList_bstr append_bstr

/-- Whole numbers that lie in a block; as a slice. -/
def IRow (w : World) (b off : Nat) (l : List Int) : Prop := ∀ i (h : i < l.length), w.cell? ⟨b, off + i, none⟩ = some (.int .i64 l[i])
def IArg (w : World) (q : Option Addr) (l : List Int) : Prop := 0 < l.length → ∃ b off, q = some ⟨b, off, none⟩ ∧ IRow w b off l
theorem IRow.lt {w : World} {b off : Nat} {l : List Int} (h : IRow w b off l) (h0 : 0 < l.length) : b < w.heap.size := World.block_lt_of_cell? w _ (h 0 h0)
theorem IArg.below {w w' : World} {q : Option Addr} {l : List Int} (h : IArg w q l) (hb : Below w.heap.size w w') : IArg w' q l := fun h0 => by
  obtain ⟨b, off, hq, hr⟩ := h h0
  exact ⟨b, off, hq, fun i hi => cell_below hb (hr i hi)⟩
def lm (l : List Int) : List UInt8 := (l.map fun x => Lib.uvarint x.toNat).flatten
theorem lm_ks : ∀ l : List Int, layKs (List.replicate l.length .I) (l.map (Lit.int .i64)) = lm l
  | [] => rfl
  | x :: l => by
    have := lm_ks l
    simp only [List.length_cons, List.replicate_succ, List.map_cons, layKs, layK, lm, List.flatten_cons] at this ⊢
    rw [this]
theorem layMem_eq (l : List Int) : layMem l = Lib.uvarint l.length ++ lm l := by rw [layMem, lm_ks]
theorem lm_take (l : List Int) (i : Nat) (h : i < l.length) : lm (l.take (i + 1)) = lm (l.take i) ++ Lib.uvarint l[i].toNat := by
  unfold lm
  rw [List.take_add_one, List.getElem?_eq_getElem h, List.map_append, List.flatten_append]
  congr 1
  simp
theorem lm_len (l : List Int) (h : ∀ x ∈ l, 0 ≤ x ∧ x ≤ 2147483647) : (lm l).length ≤ 10 * l.length := by
  induction l with
  | nil => simp [lm]
  | cons x l ih =>
    have h1 := ih fun y hy => h y (List.mem_cons_of_mem _ hy)
    have h2 := Lib.uvarint_length64 (x := x.toNat) (by have := h x List.mem_cons_self; omega)
    unfold lm at h1 ⊢
    simp only [List.map_cons, List.flatten_cons, List.length_append, List.length_cons]
    omega

set_option maxHeartbeats 4000000 in
set_option maxRecDepth 100000 in
theorem oLayMem_any (q : Option Addr) (cap : Nat) (l : List Int) (w : World) (h : IArg w q l) (hl : l.length ≤ 1000) (hv : ∀ x ∈ l, 0 ≤ x ∧ x ≤ 2147483647) :
    Calls Tryz.prog 77 #[.slice q l.length cap, .func (.func 78) #[] #[]] w fun x w' => x = .returned (.string (bstr (layMem l))) ∧ Below w.heap.size w w' := by
  rw [layMem_eq]
  have hn0 := IsB.new w
  obtain ⟨A, hA⟩ : ∃ A, A = Lib.uvarint l.length := ⟨_, rfl⟩
  have lA : A.length ≤ 10 := by rw [hA]; exact Lib.uvarint_length64 (by omega)
  have HA : Hid _ := hA
  rw [← hA]
  clear hA
  go_enter Tryz.func77, Tryz.ntmps77
  go_wp2_with fail
  refine (oInt_any l.length _ (by omega)).mono ?_
  rintro e w1 ⟨rfl, hb1⟩
  rw [← HA.out]
  have hn1 := hn0.step hb1
  have hB1 : Below w.heap.size w w1 := bel_call hb1 (bel_alloc (Below.refl _ _))
  clear hn0 hb1
  go_wp2_with fail
  refine (WriteString_any w.heap.size w.heap.size [] A w1 hn1 (by simp only [List.length_nil]; omega) hB1.size).mono ?_
  rintro e w2 ⟨rfl, hn2, hb2⟩
  rw [List.nil_append] at hn2
  have hB2 : Below w.heap.size w w2 := hB1.trans hb2
  clear hn1 hB1 hb2
  go_wp2
  go_loopw [14] (fun s14 wr => ∃ i : Nat, s14 = .int .i64 (i : Int) ∧ i ≤ l.length ∧ IsB w.heap.size w.heap.size (A ++ lm (l.take i)) wr ∧ Below w.heap.size w wr) (fun s14 _ => 1001 - (intOf s14).toNat)
  case atStart => exact ⟨0, rfl, by omega, by simpa [lm] using hn2, hB2⟩
  case round =>
    obtain ⟨i, rfl, hil, hn, hbr⟩ := hrel
    by_cases hlt : i < l.length
    · have hi1 : (i : Int) < (l.length : Int) := by omega
      obtain ⟨b, off, rfl, hr⟩ := h (by omega)
      have c0 := cell_below hbr (hr i hlt)
      have hx := hv _ (List.getElem_mem hlt)
      have hln := lm_len (l.take i) (fun x hx => hv x (List.mem_of_mem_take hx))
      have hlt2 : (l.take i).length ≤ 1000 := by rw [List.length_take]; omega
      have ht := lm_take l i hlt
      have HT : Hid _ := ht
      clear ht
      obtain ⟨x, hxx⟩ : ∃ x : Nat, l[i] = (x : Int) := ⟨l[i].toNat, by omega⟩
      rw [hxx] at c0 hx HT
      have lU : (Lib.uvarint x).length ≤ 10 := Lib.uvarint_length64 (by omega)
      clear hxx
      go_wp2_with fail
      refine (oInt_any x _ (by omega)).mono ?_
      rintro e w3 ⟨rfl, hb3⟩
      have hn3 := hn.step hb3
      have hB3 := below2 hbr hb3
      clear hn hbr c0 hb3
      go_wp2_with fail
      refine (WriteString_any w.heap.size w.heap.size (A ++ lm (l.take i)) (Lib.uvarint x) w3 hn3 (by rw [List.length_append]; omega) hB3.size).mono ?_
      rintro e w4 ⟨rfl, hn4, hb4⟩
      have hB4 : Below w.heap.size w w4 := hB3.trans hb4
      go_wp2
      go_roundw
      case rel => exact ⟨i + 1, by simp, by omega, by have := HT.out; simp only [Int.toNat_natCast] at this; rw [this, ← List.append_assoc]; exact hn4, hB4⟩
      case measure => simp [intOf]; omega
    · obtain rfl : i = l.length := by omega
      rw [List.take_length] at hn
      go_wp2_with fail
      refine (String_any w.heap.size w.heap.size (A ++ lm l) wr hn hbr.size).mono ?_
      rintro e w3 ⟨rfl, hb3⟩
      go_wp2
      go_ret
      exact ⟨rfl, hbr.trans hb3⟩

end Go.Proofs.YtbdbefgfejdbjaaGreat
