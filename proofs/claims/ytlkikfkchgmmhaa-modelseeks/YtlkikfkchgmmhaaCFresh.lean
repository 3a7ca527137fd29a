/-
  A cell that shares nothing with another one; the cells of a range.
-/
import Derived.Test.YtlkikfkchgmmhaaCRow
import Derived.BigQuiet
import Derived.Deep.RegionHeld3
import Derived.Test.YtlkikfkchgmmhaaShelf
namespace Go.Proofs.Ytlkikfkchgmmhaa
open Go.RowKit Go.BigFrame Go.Sort
attribute [local go_sem] size_bstr toList_bstr ls_def

set_option maxHeartbeats 1000000 in
theorem CClone_any (l : List UInt8) (w : World) (hl : l.length ≤ 281474976710656) :
    Calls Try.prog 39 #[.string (bstr l)] w fun e w' => e = .returned (.string (bstr l)) ∧ Below w.heap.size w w' := by
  go_enter Try.func39, Try.ntmps39
  go_wp2_with fail
  refine (Try.stringslite_Clone (bstr l) _ (by rw [size_bstr]; exact hl)).mono ?_
  rintro e w' ⟨rfl, hb⟩
  go_wp2
  go_ret
  exact ⟨rfl, hb⟩

/-- How long the texts of a cell may be: no longer than what a place of memory has. -/
def Fits (c : Cl) : Prop := c.row.length ≤ 140737488351232 ∧ c.col.length ≤ 140737488351232 ∧ c.val.length ≤ 140737488351232

/-- A store of what is there changes nothing. -/
theorem setCell_noop {W : World} {n o : Nat} {v : Value} (h : W.cell? ⟨n, o, none⟩ = some v) : W.setCell ⟨n, o, none⟩ v = W := by
  have hlt := block_lt_of_cell h
  have e : W.heap.modify n (fun | .cells c elem frozen => .cells (if (none : Option (Nat × Nat)).isSome then c else c.setIfInBounds o v) elem frozen | o => o) = W.heap := by
    apply Array.ext_getElem?
    intro k
    rw [Array.getElem?_modify]
    split
    · rename_i hk
      subst hk
      simp only [World.cell?] at h
      cases hb : W.heap[n]? with
      | none => rfl
      | some ob =>
        rw [hb] at h
        cases ob with
        | cells c t fz =>
          simp at h
          simp
          apply Array.ext_getElem?
          intro j
          rw [Array.getElem?_setIfInBounds]
          split
          · rename_i hj
            subst hj
            rw [h]
            split
            · rfl
            · rename_i hh
              rw [Array.getElem?_eq_none (by omega)] at h
              cases h
          · rfl
        | _ => rfl
    · rfl
  cases W
  simp only [World.setCell] at e ⊢
  congr 1

/-- A cell in a block of its own, and a block behind it for what is answered. -/
structure Fr (n : Nat) (c : Cl) (W : World) : Prop where
  a : W.heap[n]? = some (.cells #[.string (bstr c.row), .string (bstr c.col), .int .u64 c.ver, .bool c.gone, .string (bstr c.val)] 38 (0, 0))
  b : W.heap[n + 1]? = some (.cells #[.string ⟨#[]⟩, .string ⟨#[]⟩, .int .u64 0, .bool false, .string ⟨#[]⟩] 38 (0, 0))
theorem Fr.start (w : World) (c : Cl) : Fr w.heap.size c ((w.alloc (.cells #[.string (bstr c.row), .string (bstr c.col), .int .u64 c.ver, .bool c.gone, .string (bstr c.val)] 38)).alloc (.cells #[.string ⟨#[]⟩, .string ⟨#[]⟩, .int .u64 0, .bool false, .string ⟨#[]⟩] 38)) := by
  constructor
  · exact (Below.heap_alloc _ _ _ (by simp)).trans (heap_alloc_new w _)
  · have e : (w.alloc (.cells #[.string (bstr c.row), .string (bstr c.col), .int .u64 c.ver, .bool c.gone, .string (bstr c.val)] 38)).heap.size = w.heap.size + 1 := by simp
    rw [← e]
    exact heap_alloc_new _ _
theorem Fr.lt {n : Nat} {c : Cl} {W : World} (h : Fr n c W) : n + 1 < W.heap.size := lt_of_block h.b
theorem Fr.step {n : Nat} {c : Cl} {W W' : World} (h : Fr n c W) (hb : Below W.heap.size W W') : Fr n c W' := by
  have hl := h.lt
  exact ⟨(hb.block n (by omega)).trans h.a, (hb.block (n + 1) hl).trans h.b⟩
theorem Fr.drew {n : Nat} {c : Cl} {W : World} (h : Fr n c W) : Fr n c W.drew := ⟨h.a, h.b⟩
theorem Fr.facts {n : Nat} {c : Cl} {W : World} (h : Fr n c W) : W.cell? ⟨n, 0, none⟩ = some (.string (bstr c.row)) ∧ W.cell? ⟨n, 1, none⟩ = some (.string (bstr c.col)) ∧ W.cell? ⟨n, 2, none⟩ = some (.int .u64 c.ver) ∧ W.cell? ⟨n, 3, none⟩ = some (.bool c.gone) ∧ W.cell? ⟨n, 4, none⟩ = some (.string (bstr c.val)) ∧
    W.frozen? ⟨n, 0, none⟩ = false ∧ W.frozen? ⟨n, 1, none⟩ = false ∧ W.frozen? ⟨n, 4, none⟩ = false := by
  have ha := h.a
  refine ⟨?_, ?_, ?_, ?_, ?_, ?_, ?_, ?_⟩ <;> simp [World.cell?, World.frozen?, ha]
theorem Fr.still {n : Nat} {c : Cl} {W : World} (h : Fr n c W) : W.setCell ⟨n, 0, none⟩ (.string (bstr c.row)) = W ∧ W.setCell ⟨n, 1, none⟩ (.string (bstr c.col)) = W ∧ W.setCell ⟨n, 4, none⟩ (.string (bstr c.val)) = W := by
  obtain ⟨a0, a1, _, _, a4, _⟩ := h.facts
  exact ⟨setCell_noop a0, setCell_noop a1, setCell_noop a4⟩

theorem Fr.res {n : Nat} {c : Cl} {W : World} (h : Fr n c W) : W.cell? ⟨n + 1, 0, none⟩ = some (.string ⟨#[]⟩) ∧ W.cell? ⟨n + 1, 1, none⟩ = some (.string ⟨#[]⟩) ∧ W.cell? ⟨n + 1, 2, none⟩ = some (.int .u64 0) ∧ W.cell? ⟨n + 1, 3, none⟩ = some (.bool false) ∧ W.cell? ⟨n + 1, 4, none⟩ = some (.string ⟨#[]⟩) ∧
    W.frozen? ⟨n + 1, 0, none⟩ = false ∧ W.frozen? ⟨n + 1, 1, none⟩ = false ∧ W.frozen? ⟨n + 1, 2, none⟩ = false ∧ W.frozen? ⟨n + 1, 3, none⟩ = false ∧ W.frozen? ⟨n + 1, 4, none⟩ = false := by
  have ha := h.b
  refine ⟨?_, ?_, ?_, ?_, ?_, ?_, ?_, ?_, ?_, ?_⟩ <;> simp [World.cell?, World.frozen?, ha]
/-- Five stores into a block of five cells: what is there behind them. -/
theorem set5_reads {W : World} {n : Nat} {p q r s t u0 u1 u2 u3 u4 : Value} (d0 : W.cell? ⟨n, 0, none⟩ = some u0) (d1 : W.cell? ⟨n, 1, none⟩ = some u1) (d2 : W.cell? ⟨n, 2, none⟩ = some u2) (d3 : W.cell? ⟨n, 3, none⟩ = some u3) (d4 : W.cell? ⟨n, 4, none⟩ = some u4)
    {W' : World} (hW : ((((W.setCell ⟨n, 0, none⟩ p).setCell ⟨n, 1, none⟩ q).setCell ⟨n, 2, none⟩ r).setCell ⟨n, 3, none⟩ s).setCell ⟨n, 4, none⟩ t = W') :
    W'.cell? ⟨n, 0, none⟩ = some p ∧ W'.cell? ⟨n, 1, none⟩ = some q ∧ W'.cell? ⟨n, 2, none⟩ = some r ∧ W'.cell? ⟨n, 3, none⟩ = some s ∧ W'.cell? ⟨n, 4, none⟩ = some t := by
  subst hW
  refine ⟨?_, ?_, ?_, ?_, ?_⟩ <;> go_simp
theorem below_set5 {B : Nat} {w W : World} {n : Nat} (p q r s t : Value) (hB : Below B w W) (h : B ≤ n) : Below B w (((((W.setCell ⟨n, 0, none⟩ p).setCell ⟨n, 1, none⟩ q).setCell ⟨n, 2, none⟩ r).setCell ⟨n, 3, none⟩ s).setCell ⟨n, 4, none⟩ t) :=
  ((((hB.setCell (p := ⟨n, 0, none⟩) h p).setCell (p := ⟨n, 1, none⟩) h q).setCell (p := ⟨n, 2, none⟩) h r).setCell (p := ⟨n, 3, none⟩) h s).setCell (p := ⟨n, 4, none⟩) h t

theorem own_mono {w : World} {B B' e size n : Nat} {v : Value} {xs : List Value} (h : w.ownsRow B e size v n xs) (hb : B' ≤ B) : w.ownsRow B' e size v n xs := by
  rcases h.2 with h0 | ⟨g, cap, cur, hv, hbg, r⟩
  · exact ⟨h.1, .inl h0⟩
  · exact ⟨h.1, .inr ⟨g, cap, cur, hv, Nat.le_trans hb hbg, r⟩⟩

/-- The cells of a range. -/
def withinL (lo hi : List UInt8) (l : List Cl) : List Cl := l.filter fun c => hasB lo hi c.row
theorem within_yes {lo hi : List UInt8} {l : List Cl} {i : Nat} (h : i < l.length) (k : hasB lo hi l[i].row = true) : withinL lo hi (l.take (i + 1)) = withinL lo hi (l.take i) ++ [l[i]] := by
  unfold withinL
  rw [List.take_succ_eq_append_getElem h, List.filter_append]
  simp [k]
theorem within_no {lo hi : List UInt8} {l : List Cl} {i : Nat} (h : i < l.length) (k : hasB lo hi l[i].row = false) : withinL lo hi (l.take (i + 1)) = withinL lo hi (l.take i) := by
  unfold withinL
  rw [List.take_succ_eq_append_getElem h, List.filter_append]
  simp [k]
theorem within_len (lo hi : List UInt8) (l : List Cl) (i : Nat) : (withinL lo hi (l.take i)).length ≤ i := Nat.le_trans (List.length_filter_le _ _) (by simp; omega)

/-- One cell appended to a row that the call owns. -/
theorem cell_news (W : World) (c : Cl) (t : TypeId) : ∀ j u, (encC c)[j]? = some u → (W.alloc (.cells #[.string (bstr c.row), .string (bstr c.col), .int .u64 c.ver, .bool c.gone, .string (bstr c.val)] t)).cell? ((⟨W.heap.size, 0, none⟩ : Addr).add j) = some u := by
  intro j u hj
  have := World.cell?_alloc_at (w := W) #[.string (bstr c.row), .string (bstr c.col), .int .u64 c.ver, .bool c.gone, .string (bstr c.val)] t W.heap.size j rfl
  rw [Addr.add_lit, Nat.zero_add, this]
  simp only [encC] at hj
  rw [← hj]
  match j with
  | 0 => rfl
  | 1 => rfl
  | 2 => rfl
  | 3 => rfl
  | 4 => rfl
  | n + 5 => rfl

end Go.Proofs.Ytlkikfkchgmmhaa
