/-
  A model: touched.
-/
import Derived.Test.YtlkikfkchgmmhaaYMap
import Derived.Laws.AppendOwn
namespace Go.Proofs.Ytlkikfkchgmmhaa
open Go.RowKit Go.BigFrame Go.Sort
attribute [local go_sem] size_bstr toList_bstr ls_def

/-- What is looked up. -/
theorem Md.look {w : World} {g m n : Nat} {F : Mf} (h : Md w g m n F) {r c : List UInt8} (hr : r.length ≤ bigL) (hc : c.length ≤ bigL) : (Instr.lookup 56 (.map (some m)) (.agg #[.string (bstr r), .string (bstr c)]) true).run Try.prog w = .ok (.tuple #[clO (F r c), .bool (F r c).isSome]) w := by
  obtain ⟨D, hown, hMp⟩ := h.mp
  obtain ⟨h1, h2⟩ := hMp.1 r c hr hc
  obtain ⟨v, ps, hrun, hv⟩ := hown.look_ok keyP Try.underlying56 (zeroC w) (show celElem (clV zC) = some (.held (clV zC), []) from rfl) (key_place hr hc)
  rw [h1] at hv
  rw [hrun, cel_inv hv, h2]
def optL (x : Option Cl) : List Cl := match x with | some c => [c] | none => []
def touL (F : Mf) (o : Oq) : List Cl := optL (F o.row []) ++ optL (F o.row o.col)
theorem optL_len (x : Option Cl) : (optL x).length ≤ 1 := by cases x <;> simp [optL]
def pcs (o : Oq) : Array Value := #[.string (bstr o.row), .string ⟨#[]⟩, .string (bstr o.row), .string (bstr o.col)]
/-- The key of the i-th of the two places, and what was found up to it. -/
def ptc (o : Oq) (i : Nat) : List UInt8 := if i = 0 then [] else o.col
def fndL (F : Mf) (o : Oq) (i : Nat) : List Cl := if i = 0 then [] else if i = 1 then optL (F o.row []) else touL F o
theorem fndL_len (F : Mf) (o : Oq) (i : Nat) : (fndL F o i).length ≤ 2 := by
  have h1 := optL_len (F o.row [])
  have h2 := optL_len (F o.row o.col)
  unfold fndL touL
  split
  · simp
  · split
    · omega
    · rw [List.length_append]; omega
theorem fndL_succ (F : Mf) (o : Oq) {i : Nat} (hi : i < 2) : fndL F o (i + 1) = fndL F o i ++ optL (F o.row (ptc o i)) := by
  match i, hi with
  | 0, _ => rfl
  | 1, _ => rfl

set_option maxHeartbeats 8000000 in
set_option maxRecDepth 100000 in
theorem touched_any (g m n : Nat) (F : Mf) (o : Oq) (w : World) (h : Md w g m n F) (h1 : o.row.length ≤ bigL) (h2 : o.col.length ≤ bigL) : Calls Try.prog 23 #[.pointer (some ⟨g, 0, none⟩), oqV o] w fun e w' => ∃ v, e = .returned v ∧ w'.ownsRow w.heap.size 38 5 v (touL F o).length (ccells (touL F o)) ∧ Below w.heap.size w w' := by
  obtain ⟨i0, hi, hz0, hz1, hz2⟩ := info_parts Try.infoCell
  obtain ⟨w1, hw1⟩ : ∃ w1, w1 = w.alloc (.cells (oqC o) 32) := ⟨_, rfl⟩
  have hb1 : Below w.heap.size w w1 := by rw [hw1]; exact (Below.refl _ _).alloc (Nat.le_refl _) _
  have x1 : OqB w1 w.heap.size o := by rw [hw1]; exact heap_alloc_new w _
  have hM1 := h.below hb1 h.lt.1 h.lt.2
  obtain ⟨w2, hw2⟩ : ∃ w2, w2 = w1.alloc (.cells (pcs o) 60) := ⟨_, rfl⟩
  have hb2 : Below w1.heap.size w1 w2 := by rw [hw2]; exact (Below.refl _ _).alloc (Nat.le_refl _) _
  have x2 : w2.heap[w1.heap.size]? = some (.cells (pcs o) 60 (0, 0)) := by rw [hw2]; exact heap_alloc_new w1 _
  have hb12 := below2 hb1 hb2
  have hM2 := hM1.below hb2 hM1.lt.1 hM1.lt.2
  have HW1 : Hid _ := hw1
  have HW2 : Hid _ := hw2
  have hN : w1.heap.size = w.heap.size + 1 := by rw [hw1]; simp
  obtain ⟨c0, c1, c2, c3, c4, c5⟩ := x1.facts
  go_enter Try.func23, Try.ntmps23
  go_upto_region 2 with fail
  rw [show #[.int .i64 o.kind, .string (bstr o.row), .string (bstr o.col), .string (bstr o.val), .bool o.has, .string (bstr o.exp)] = oqC o from rfl, ← HW1.out]
  clear hw1 hw2
  go_wp2_with fail
  rw [show #[.string (bstr o.row), .string ⟨#[]⟩, .string (bstr o.row), .string (bstr o.col)] = pcs o from rfl, ← HW2.out]
  rw [hN] at x2
  clear HW1 HW2 c0 c1 c2 c3 c4 c5 x1 hM1 h hb1 hb2
  have hs2 := blk_lt x2
  go_loopw [5, 7, 8, 9, 20] (fun s5 _ _ _ s20 wr => ∃ i : Nat, s20 = .int .i64 (i : Int) ∧ i ≤ 2 ∧ wr.ownsRow w2.heap.size 38 5 s5 (fndL F o i).length (ccells (fndL F o i)) ∧ Below w2.heap.size w2 wr) (fun _ _ _ _ s20 _ => 2 - (intOf s20).toNat)
  case atStart => exact ⟨0, rfl, by omega, ⟨rfl, .inl ⟨rfl, rfl⟩⟩, Below.refl _ _⟩
  case round =>
    obtain ⟨i, rfl, hi2, hown, hbl⟩ := hrel
    by_cases hlt : i < 2
    · have hM := hM2.below hbl hM2.lt.1 hM2.lt.2
      have xr := (hbl.block _ hs2).trans x2
      obtain ⟨p0, p1⟩ : wr.cell? ⟨w.heap.size + 1, i * 2, none⟩ = some (.string (bstr o.row)) ∧ wr.cell? ⟨w.heap.size + 1, i * 2 + 1, none⟩ = some (.string (bstr (ptc o i))) := by
        match i, hlt with
        | 0, _ => exact ⟨(mcells xr).1 0, (mcells xr).1 1⟩
        | 1, _ => exact ⟨(mcells xr).1 2, (mcells xr).1 3⟩
      have HSU : Hid _ := fndL_succ F o hlt
      have hpl : (ptc o i).length ≤ bigL := by unfold ptc; split; exact Nat.zero_le _; exact h2
      obtain ⟨pc, hpc⟩ : ∃ pc, pc = ptc o i := ⟨_, rfl⟩
      rw [← hpc] at p1 HSU hpl
      obtain ⟨acc, hacc⟩ : ∃ acc, acc = fndL F o i := ⟨_, rfl⟩
      have hal := fndL_len F o i
      rw [← hacc] at hown HSU hal
      obtain ⟨w3, hw3⟩ : ∃ w3, w3 = wr.alloc (.cells #[.string (bstr o.row), .string (bstr pc)] 60) := ⟨_, rfl⟩
      have hb3 : Below wr.heap.size wr w3 := by rw [hw3]; exact (Below.refl _ _).alloc (Nat.le_refl _) _
      have x3 : w3.heap[wr.heap.size]? = some (.cells #[.string (bstr o.row), .string (bstr pc)] 60 (0, 0)) := by rw [hw3]; exact heap_alloc_new wr _
      have hM3 := hM.below hb3 hM.lt.1 hM.lt.2
      have hown3 : w3.ownsRow w2.heap.size 38 5 u5 acc.length (ccells acc) := by rw [hw3]; exact hown.alloc _
      have HW3 : Hid _ := hw3
      have hbl3 := below2 hbl hb3
      have HLT : Hid (i + 1 ≤ 2) := hlt
      have hiz : (i : Int) < 2 := by omega
      clear hw3 hpc hacc hM xr hb3 hown
      go_upto_region 5 with fail
      rw [← HW3.out]
      clear HW3 p0 p1
      have k0 := (mcells hM3.bx).1 0
      simp at k0
      obtain ⟨p0, p1⟩ : w3.cell? ⟨wr.heap.size, 0, none⟩ = some (.string (bstr o.row)) ∧ w3.cell? ⟨wr.heap.size, 1, none⟩ = some (.string (bstr pc)) := ⟨(mcells x3).1 0, (mcells x3).1 1⟩
      have hlk := (hM3.kept (w' := w3.drew) rfl rfl).look h1 hpl
      have hlk2 := (hM3.kept (w' := (w3.alloc (.cells #[.string ⟨#[]⟩, .string ⟨#[]⟩, .int .u64 0, .bool false, .string ⟨#[]⟩] 38)).drew) (Below.heap_alloc _ _ _ hM3.lt.1) (Below.heap_alloc _ _ _ hM3.lt.2)).look h1 hpl
      simp only [clO] at hlk hlk2
      have hsz3 := blk_lt x3
      have hea : ∀ b o, b < w3.heap.size → (w3.alloc (.cells #[.string ⟨#[]⟩, .string ⟨#[]⟩, .int .u64 0, .bool false, .string ⟨#[]⟩] 38)).cell? ⟨b, o, none⟩ = w3.cell? ⟨b, o, none⟩ := fun b o hb => World.cell?_of_block (Below.heap_alloc _ _ _ hb)
      have p0a := (hea _ 0 hsz3).trans p0
      have p1a := (hea _ 1 hsz3).trans p1
      have k0a := (hea _ 0 hM3.lt.1).trans k0
      clear hea
      obtain ⟨fx, hfx⟩ : ∃ fx, fx = F o.row pc := ⟨_, rfl⟩
      rw [← hfx] at hlk hlk2 HSU
      clear hfx
      go_region
      · obtain ⟨w4, hw4⟩ : ∃ w4, w4 = (w3.alloc (.cells #[.string (bstr (fx.getD zC).row), .string (bstr (fx.getD zC).col), .int .u64 (fx.getD zC).ver, .bool (fx.getD zC).gone, .string (bstr (fx.getD zC).val)] 38)).drew := ⟨_, rfl⟩
        have hb4 : Below w3.heap.size w3 w4 := by rw [hw4]; exact ((Below.refl _ _).alloc (Nat.le_refl _) _).drew
        have x4 : w4.heap[w3.heap.size]? = some (.cells #[.string (bstr (fx.getD zC).row), .string (bstr (fx.getD zC).col), .int .u64 (fx.getD zC).ver, .bool (fx.getD zC).gone, .string (bstr (fx.getD zC).val)] 38 (0, 0)) := by rw [hw4]; exact heap_alloc_new w3 _
        have hown4 : w4.ownsRow w2.heap.size 38 5 u5 acc.length (ccells acc) := by rw [hw4]; exact (hown3.alloc _).drew
        have hbl4 := below2 hbl3 hb4
        rw [← hw4]
        clear hw4 hb4 hlk hlk2 p0 p1 k0 p0a p1a k0a hM3 hown3 x3 hbl3
        cases fx with
        | none =>
          rw [show optL none = [] from rfl, List.append_nil] at HSU
          rw [← HSU.out] at hown4
          go_wp2
          go_roundw
          case rel => exact ⟨i + 1, by go_num, HLT.out, hown4, hbl4⟩
          case measure => have := HLT.out; simp [intOf]; omega
        | some c =>
          rw [show optL (some c) = [c] from rfl] at HSU
          rw [show (some c).getD zC = c from rfl] at x4
          obtain ⟨q5, cap5, rfl⟩ : ∃ q5 cap5, u5 = Value.slice q5 acc.length cap5 := by
            rcases hown4.2 with ⟨e, e0⟩ | ⟨g, cap, cur, e, _⟩
            · exact ⟨none, 0, by rw [e, e0]⟩
            · exact ⟨_, _, e⟩
          obtain ⟨e0, e1, e2, e3, e4⟩ : w4.cell? ⟨w3.heap.size, 0, none⟩ = some (.string (bstr c.row)) ∧ w4.cell? ⟨w3.heap.size, 1, none⟩ = some (.string (bstr c.col)) ∧ w4.cell? ⟨w3.heap.size, 2, none⟩ = some (.int .u64 c.ver) ∧ w4.cell? ⟨w3.heap.size, 3, none⟩ = some (.bool c.gone) ∧ w4.cell? ⟨w3.heap.size, 4, none⟩ = some (.string (bstr c.val)) := ⟨(mcells x4).1 0, (mcells x4).1 1, (mcells x4).1 2, (mcells x4).1 3, (mcells x4).1 4⟩
          have hnews := cell_news w4 c 38
          have HSZ : Hid (w2.heap.size ≤ w4.heap.size) := hbl4.size
          have HAL : Hid (acc.length ≤ 2) := hal
          clear hal hlt hi2 x4
          go_wp2_with (at_builtin; refine wpList_append_own _ rfl _ _ 25 rfl w2.heap.size 38 i0 (.agg #[.string ⟨#[]⟩, .string ⟨#[]⟩, .int .u64 0, .bool false, .string ⟨#[]⟩]) 5 64 Try.underlying25 hi hz0 hz1 hz2 rfl (by decide) _ _ _ rfl (hown4.alloc _) ⟨w4.heap.size, 0, none⟩ 1 1 (encC c) rfl rfl hnews (encC_one _) ?c3 ?c4 ?c5 ?_)
          case c3 => have := HAL.out; unfold maxLen; omega
          case c4 => have := HAL.out; omega
          case c5 => have := HSZ.out; simp only [World.size_alloc]; omega
          intro v' w5 hown5 hgrow _
          have hb5 : Below w2.heap.size w2 w5 := (hbl4.alloc HSZ.out _).grown hgrow (by have := HSZ.out; simp only [World.size_alloc]; omega) (fun k hk => (hown4.lt k hk).1)
          have hown6 : w5.ownsRow w2.heap.size 38 5 v' (fndL F o (i + 1)).length (ccells (fndL F o (i + 1))) := by
            rw [HSU.out, List.length_append, ccells_append]
            have e : ccells [c] = encC c := by simp [ccells]
            rw [e]
            exact hown5
          clear hown4 hown5 hgrow hnews e0 e1 e2 e3 e4
          go_wp2
          go_roundw
          case rel => exact ⟨i + 1, by go_num, HLT.out, hown6, hb5⟩
          case measure => have := HLT.out; simp [intOf]; omega
      · obtain ⟨w4, hw4⟩ : ∃ w4, w4 = (w3.alloc (.cells #[.string (bstr (fx.getD zC).row), .string (bstr (fx.getD zC).col), .int .u64 (fx.getD zC).ver, .bool (fx.getD zC).gone, .string (bstr (fx.getD zC).val)] 38)).drew := ⟨_, rfl⟩
        have hb4 : Below w3.heap.size w3 w4 := by rw [hw4]; exact ((Below.refl _ _).alloc (Nat.le_refl _) _).drew
        have x4 : w4.heap[w3.heap.size]? = some (.cells #[.string (bstr (fx.getD zC).row), .string (bstr (fx.getD zC).col), .int .u64 (fx.getD zC).ver, .bool (fx.getD zC).gone, .string (bstr (fx.getD zC).val)] 38 (0, 0)) := by rw [hw4]; exact heap_alloc_new w3 _
        have hown4 : w4.ownsRow w2.heap.size 38 5 u5 acc.length (ccells acc) := by rw [hw4]; exact (hown3.alloc _).drew
        have hbl4 := below2 hbl3 hb4
        rw [← hw4]
        clear hw4 hb4 hlk hlk2 p0 p1 k0 p0a p1a k0a hM3 hown3 x3 hbl3
        cases fx with
        | none =>
          rw [show optL none = [] from rfl, List.append_nil] at HSU
          rw [← HSU.out] at hown4
          go_wp2
          go_roundw
          case rel => exact ⟨i + 1, by go_num, HLT.out, hown4, hbl4⟩
          case measure => have := HLT.out; simp [intOf]; omega
        | some c =>
          rw [show optL (some c) = [c] from rfl] at HSU
          rw [show (some c).getD zC = c from rfl] at x4
          obtain ⟨q5, cap5, rfl⟩ : ∃ q5 cap5, u5 = Value.slice q5 acc.length cap5 := by
            rcases hown4.2 with ⟨e, e0⟩ | ⟨g, cap, cur, e, _⟩
            · exact ⟨none, 0, by rw [e, e0]⟩
            · exact ⟨_, _, e⟩
          obtain ⟨e0, e1, e2, e3, e4⟩ : w4.cell? ⟨w3.heap.size, 0, none⟩ = some (.string (bstr c.row)) ∧ w4.cell? ⟨w3.heap.size, 1, none⟩ = some (.string (bstr c.col)) ∧ w4.cell? ⟨w3.heap.size, 2, none⟩ = some (.int .u64 c.ver) ∧ w4.cell? ⟨w3.heap.size, 3, none⟩ = some (.bool c.gone) ∧ w4.cell? ⟨w3.heap.size, 4, none⟩ = some (.string (bstr c.val)) := ⟨(mcells x4).1 0, (mcells x4).1 1, (mcells x4).1 2, (mcells x4).1 3, (mcells x4).1 4⟩
          have hnews := cell_news w4 c 38
          have HSZ : Hid (w2.heap.size ≤ w4.heap.size) := hbl4.size
          have HAL : Hid (acc.length ≤ 2) := hal
          clear hal hlt hi2 x4
          go_wp2_with (at_builtin; refine wpList_append_own _ rfl _ _ 25 rfl w2.heap.size 38 i0 (.agg #[.string ⟨#[]⟩, .string ⟨#[]⟩, .int .u64 0, .bool false, .string ⟨#[]⟩]) 5 64 Try.underlying25 hi hz0 hz1 hz2 rfl (by decide) _ _ _ rfl (hown4.alloc _) ⟨w4.heap.size, 0, none⟩ 1 1 (encC c) rfl rfl hnews (encC_one _) ?c3 ?c4 ?c5 ?_)
          case c3 => have := HAL.out; unfold maxLen; omega
          case c4 => have := HAL.out; omega
          case c5 => have := HSZ.out; simp only [World.size_alloc]; omega
          intro v' w5 hown5 hgrow _
          have hb5 : Below w2.heap.size w2 w5 := (hbl4.alloc HSZ.out _).grown hgrow (by have := HSZ.out; simp only [World.size_alloc]; omega) (fun k hk => (hown4.lt k hk).1)
          have hown6 : w5.ownsRow w2.heap.size 38 5 v' (fndL F o (i + 1)).length (ccells (fndL F o (i + 1))) := by
            rw [HSU.out, List.length_append, ccells_append]
            have e : ccells [c] = encC c := by simp [ccells]
            rw [e]
            exact hown5
          clear hown4 hown5 hgrow hnews e0 e1 e2 e3 e4
          go_wp2
          go_roundw
          case rel => exact ⟨i + 1, by go_num, HLT.out, hown6, hb5⟩
          case measure => have := HLT.out; simp [intOf]; omega
    · have hie : i = 2 := by omega
      subst hie
      have hown2 : wr.ownsRow w.heap.size 38 5 u5 (touL F o).length (ccells (touL F o)) := own_mono hown hb12.size
      have hbf : Below w.heap.size w wr := below2 hb12 hbl
      clear hown hbl
      go_wp2
      go_ret
      exact ⟨_, rfl, hown2, hbf⟩

end Go.Proofs.Ytlkikfkchgmmhaa
