/-
  Rows of cells in memory; '==' of two cells; keys.Cmp with the blocks that it lays told.
-/
import Derived.Test.YtlkikfkchgmmhaaCMath
import Derived.Laws.StructEq
import Derived.Laws.AppendOwn
import Derived.Sort.Grow
namespace Go.Proofs.Ytlkikfkchgmmhaa
open Go.RowKit Go.BigFrame Go.Sort
attribute [local go_sem] size_bstr toList_bstr ls_def

abbrev clV (c : Cl) : Value := .agg #[.string (bstr c.row), .string (bstr c.col), .int .u64 c.ver, .bool c.gone, .string (bstr c.val)]
/-- A cell's five cells of memory. -/
def encC (c : Cl) : List Value := [.string (bstr c.row), .string (bstr c.col), .int .u64 c.ver, .bool c.gone, .string (bstr c.val)]
def ccells (cs : List Cl) : List Value := cs.flatMap encC
theorem ccells_length (cs : List Cl) : (ccells cs).length = cs.length * 5 := by
  induction cs with
  | nil => rfl
  | cons r rs ih => rw [ccells, List.flatMap_cons, List.length_append]; rw [ccells] at ih; rw [ih]; simp [encC]; omega
theorem ccells_append (a b : List Cl) : ccells (a ++ b) = ccells a ++ ccells b := by simp [ccells]
theorem ccells_get (cs : List Cl) (i : Nat) (hi : i < cs.length) : ∀ j, j < 5 → (ccells cs)[i * 5 + j]? = (encC cs[i])[j]? := by
  induction cs generalizing i with
  | nil => simp at hi
  | cons r rs ih =>
    intro j hj
    cases i with
    | zero =>
      rw [ccells, List.flatMap_cons, Nat.zero_mul, Nat.zero_add, List.getElem?_append_left (by simpa [encC] using hj)]
      rfl
    | succ i =>
      rw [ccells, List.flatMap_cons, List.getElem?_append_right (by simp [encC]; omega)]
      have e : (i + 1) * 5 + j - (encC r).length = i * 5 + j := by simp [encC]; omega
      rw [e]
      exact ih i (by simpa using hi) j hj
theorem encC_one (c : Cl) : ∀ v ∈ encC c, v.oneCell' = true := by
  intro v hv
  simp [encC] at hv
  rcases hv with rfl | rfl | rfl | rfl | rfl <;> rfl
theorem ccells_one (cs : List Cl) : ∀ v ∈ ccells cs, v.oneCell' = true := by
  intro v hv
  obtain ⟨c, _, h⟩ := List.mem_flatMap.1 hv
  exact encC_one c v h

/-- A cell lies at a place. -/
structure At5 (W : World) (b o : Nat) (c : Cl) : Prop where
  c0 : W.cell? ⟨b, o, none⟩ = some (.string (bstr c.row))
  c1 : W.cell? ⟨b, o + 1, none⟩ = some (.string (bstr c.col))
  c2 : W.cell? ⟨b, o + 2, none⟩ = some (.int .u64 c.ver)
  c3 : W.cell? ⟨b, o + 3, none⟩ = some (.bool c.gone)
  c4 : W.cell? ⟨b, o + 4, none⟩ = some (.string (bstr c.val))
theorem At5.lt {W : World} {b o : Nat} {c : Cl} (h : At5 W b o c) : b < W.heap.size := block_lt_of_cell h.c0
theorem At5.step {W W' : World} {b o : Nat} {c : Cl} {B : Nat} (h : At5 W b o c) (hb : Below B W W') (hB : b < B) : At5 W' b o c := by
  obtain ⟨cb, _⟩ := bcell hb
  exact ⟨by rw [cb _ _ hB]; exact h.c0, by rw [cb _ _ hB]; exact h.c1, by rw [cb _ _ hB]; exact h.c2, by rw [cb _ _ hB]; exact h.c3, by rw [cb _ _ hB]; exact h.c4⟩
theorem At5.same {W W' : World} {b o : Nat} {c : Cl} (h : At5 W b o c) (hc : ∀ o, W'.cell? ⟨b, o, none⟩ = W.cell? ⟨b, o, none⟩) : At5 W' b o c :=
  ⟨by rw [hc]; exact h.c0, by rw [hc]; exact h.c1, by rw [hc]; exact h.c2, by rw [hc]; exact h.c3, by rw [hc]; exact h.c4⟩
/-- A row of cells lies in a block. -/
def CRow (W : World) (b off : Nat) (cs : List Cl) : Prop := ∀ i (hi : i < cs.length), At5 W b (off + i * 5) cs[i]
theorem CRow.step {W W' : World} {b off : Nat} {cs : List Cl} {B : Nat} (h : CRow W b off cs) (hb : Below B W W') (hB : b < B) : CRow W' b off cs := fun i hi => (h i hi).step hb hB
theorem CRow.same {W W' : World} {b off : Nat} {cs : List Cl} (h : CRow W b off cs) (hc : ∀ o, W'.cell? ⟨b, o, none⟩ = W.cell? ⟨b, o, none⟩) : CRow W' b off cs := fun i hi => (h i hi).same hc
theorem CRow.take {W : World} {b off : Nat} {cs : List Cl} (h : CRow W b off cs) (k : Nat) : CRow W b off (cs.take k) := by
  intro i hi
  rw [List.getElem_take]
  exact h i (by rw [List.length_take] at hi; omega)
theorem CRow.drop {W : World} {b off : Nat} {cs : List Cl} (h : CRow W b off cs) (k : Nat) : CRow W b (off + k * 5) (cs.drop k) := by
  intro i hi
  have hi' : k + i < cs.length := by rw [List.length_drop] at hi; omega
  have := h (k + i) hi'
  rw [List.getElem_drop]
  have e1 : off + k * 5 + i * 5 = off + (k + i) * 5 := by omega
  rw [e1]
  exact this
/-- What is read of a row, as one list of cells of memory. -/
theorem CRow.cells {W : World} {b off : Nat} {cs : List Cl} (h : CRow W b off cs) : ∀ j u, (ccells cs)[j]? = some u → W.cell? ((⟨b, off, none⟩ : Addr).add j) = some u := by
  intro j u hj
  have hlt : j < (ccells cs).length := by
    by_cases x : j < (ccells cs).length
    · exact x
    · rw [List.getElem?_eq_none (by omega)] at hj; cases hj
  rw [ccells_length] at hlt
  have hi : j / 5 < cs.length := by omega
  have e : j / 5 * 5 + j % 5 = j := by omega
  rw [← e, ccells_get cs (j / 5) hi (j % 5) (Nat.mod_lt _ (by omega))] at hj
  obtain ⟨a0, a1, a2, a3, a4⟩ := h (j / 5) hi
  rw [Addr.add_lit, ← e, ← Nat.add_assoc]
  generalize j % 5 = m at hj ⊢
  match m, hj with
  | 0, hj => simp [encC] at hj; subst hj; exact a0
  | 1, hj => simp [encC] at hj; subst hj; exact a1
  | 2, hj => simp [encC] at hj; subst hj; exact a2
  | 3, hj => simp [encC] at hj; subst hj; exact a3
  | 4, hj => simp [encC] at hj; subst hj; exact a4
  | n + 5, hj => simp [encC] at hj
theorem CRow.of_cells {W : World} {b off : Nat} {cs : List Cl} (h : ∀ j u, (ccells cs)[j]? = some u → W.cell? ((⟨b, off, none⟩ : Addr).add j) = some u) : CRow W b off cs := by
  intro i hi
  have g := fun j hj => ccells_get cs i hi j hj
  refine ⟨?_, ?_, ?_, ?_, ?_⟩
  · have := h _ _ (g 0 (by omega)); rw [Addr.add_lit] at this; exact this
  · have := h _ _ (g 1 (by omega)); rw [Addr.add_lit, ← Nat.add_assoc] at this; exact this
  · have := h _ _ (g 2 (by omega)); rw [Addr.add_lit, ← Nat.add_assoc] at this; exact this
  · have := h _ _ (g 3 (by omega)); rw [Addr.add_lit, ← Nat.add_assoc] at this; exact this
  · have := h _ _ (g 4 (by omega)); rw [Addr.add_lit, ← Nat.add_assoc] at this; exact this

/-- A row that the call owns. -/
theorem own_crow {w : World} {B e : Nat} {v : Value} {cs : List Cl} (h : w.ownsRow B e 5 v cs.length (ccells cs)) (hne : cs ≠ []) :
    ∃ g cap, v = .slice (some ⟨g, 0, none⟩) cs.length cap ∧ B ≤ g ∧ g < w.heap.size ∧ cs.length ≤ cap ∧ cap ≤ maxLen ∧ CRow w g 0 cs ∧ ∀ o, w.frozen? ⟨g, o, none⟩ = false := by
  rcases h.2 with ⟨_, h0⟩ | ⟨g, cap, cur, hv, hbg, hg, hnc, hcm, hcs, htake⟩
  · exact absurd (List.eq_nil_of_length_eq_zero h0) hne
  · have hlt : g < w.heap.size := by
      by_cases hl : g < w.heap.size
      · exact hl
      · rw [Array.getElem?_eq_none (Nat.le_of_not_lt hl)] at hg
        exact absurd hg (by simp)
    exact ⟨g, cap, hv, hbg, hlt, hnc, hcm, CRow.of_cells (h.cells (g := g) (by rw [hv]; rfl)), fun o => by simp [World.frozen?, hg]⟩
theorem own_cslice {w : World} {B e : Nat} {v : Value} {cs : List Cl} (h : w.ownsRow B e 5 v cs.length (ccells cs)) :
    ∃ p cap, v = .slice p cs.length cap ∧ cap ≤ maxLen ∧ cs.length ≤ cap ∧ (0 < cs.length → ∃ g, p = some ⟨g, 0, none⟩ ∧ B ≤ g ∧ g < w.heap.size ∧ CRow w g 0 cs ∧ ∀ o, w.frozen? ⟨g, o, none⟩ = false) := by
  by_cases hne : cs = []
  · subst hne
    rcases h.2 with ⟨hv, h0⟩ | ⟨g, cap, cur, hv, hbg, hg, hnc, hcm, hcs, htake⟩
    · exact ⟨none, 0, hv, Nat.zero_le _, Nat.le_refl _, fun h => absurd h (by simp)⟩
    · exact ⟨_, cap, hv, hcm, hnc, fun h => absurd h (by simp)⟩
  · obtain ⟨g, cap, hv, hb, hg, hc, hm, hr, hf⟩ := own_crow h hne
    exact ⟨_, cap, hv, hm, hc, fun _ => ⟨g, rfl, hb, hg, hr, hf⟩⟩
theorem own_cbelow {w w' : World} {B e size n : Nat} {v : Value} {xs : List Value} (h : w.ownsRow B e size v n xs) (hb : Below w.heap.size w w') : w'.ownsRow B e size v n xs := by
  rcases h.2 with h0 | ⟨g, cap, cur, hv, hbg, hg, hnc, hcm, hcs, htake⟩
  · exact ⟨h.1, .inl h0⟩
  · have hlt : g < w.heap.size := by
      by_cases hl : g < w.heap.size
      · exact hl
      · rw [Array.getElem?_eq_none (Nat.le_of_not_lt hl)] at hg
        exact absurd hg (by simp)
    exact ⟨h.1, .inr ⟨g, cap, cur, hv, hbg, (hb.block g hlt).trans hg, hnc, hcm, hcs, htake⟩⟩

theorem Try.infoCell : (Try.prog.info? 38).map (fun i => (i.zero, i.size, i.bytes)) = some (some (.agg #[.string ⟨#[]⟩, .string ⟨#[]⟩, .int .u64 0, .bool false, .string ⟨#[]⟩]), 5, 64) := by kernel_rfl

/-! ### '==' of two cells -/
def eqC (a b : Cl) : Bool := a.row == b.row && a.col == b.col && decide (a.ver = b.ver) && a.gone == b.gone && a.val == b.val
theorem eqC_iff {a b : Cl} : eqC a b = true ↔ a = b := by
  cases a
  cases b
  simp [eqC, and_assoc]
theorem eqC_self (a : Cl) : eqC a a = true := eqC_iff.2 rfl
theorem eqC_ne {a b : Cl} : eqC a b = false ↔ a ≠ b := by
  have h := eqC_iff (a := a) (b := b)
  cases hx : eqC a b with
  | true => simp [h.1 hx]
  | false => simp; intro e; rw [h.2 e] at hx; cases hx
theorem eqFields_cell (a b : Cl) (w : World) : (Op.equalIn 10000 38 (clV a) (clV b)).run Try.prog w = .ok (eqC a b) w := by
  have hS : Try.prog.underlying 38 = some (.struct (Try.prog.fieldsOf 38)) := by kernel_rfl
  have hp : Try.prog.stoodInHeld 38 = false := by kernel_rfl
  have u := Try.underlying9
  have ag := Try.isAgg9
  have sz := Try.sizeOf9
  have u2 := Try.underlying27
  have ag2 := Try.isAgg27
  have sz2 := Try.sizeOf27
  have u3 := Try.underlying4
  have ag3 := Try.isAgg4
  have sz3 := Try.sizeOf4
  rw [show (10000 : Nat) = 9999 + 1 from rfl, run_equalIn_agg w 9999 38 _ _ hS hp]
  simp only [Program.fieldsOf, Try.underlying38]
  go_simp
  obtain ⟨r, c, v, g, x⟩ := a
  obtain ⟨r', c', v', g', x'⟩ := b
  simp only [eqC]
  by_cases h1 : r = r' <;> by_cases h2 : c = c' <;> by_cases h3 : v = v' <;> by_cases h4 : g = g' <;> by_cases h5 : x = x' <;> simp [h1, h2, h3, h4, h5]
theorem cell_eql (a b : Cl) (w : World) : (binOp .eql 38 (clV a) (clV b)).run Try.prog w = .ok (.bool (eqC a b)) w := by
  rw [run_eql_struct, eqFields_cell]
  rfl
theorem cell_neq (a b : Cl) (w : World) : (binOp .neq 38 (clV a) (clV b)).run Try.prog w = .ok (.bool (!eqC a b)) w := by
  rw [run_neq_struct, eqFields_cell]
  rfl
theorem cell_guard (op : BinOp) (x y : Operand) (xs ys : Array Value) (w : World) : (eqGuard op 38 x y (.agg xs) (.agg ys)).run Try.prog w = .ok () w :=
  run_eqGuard_agg w op _ x y xs ys (by kernel_rfl)

theorem grow_end {W w : World} {os : Array Obj} (o : Obj) (h : W = grow w os) : ∃ q os', (W.alloc o).drew = grow (w.drewN q) os' := ⟨1, os ++ #[o], by rw [h, alloc_eq_grow, grow_grow]; rfl⟩

set_option maxHeartbeats 2000000 in
set_option maxRecDepth 100000 in
/-- keys.Cmp: what it lays is new; nothing else has turned. -/
theorem Cmp_grow (a b : Cl) (w : World) :
    Calls Try.prog 29 #[clV a, clV b] w fun e w' => e = .returned (.int .i64 (ccl a b)) ∧ ∃ q os', w' = grow (w.drewN q) os' := by
  obtain ⟨r, c, v, g, x⟩ := a
  obtain ⟨r', c', v', g', x'⟩ := b
  show Calls Try.prog 29 #[cellV r c v g x, cellV r' c' v' g' x'] w fun e w' => e = .returned (.int .i64 (cc r c v r' c' v')) ∧ ∃ q os', w' = grow (w.drewN q) os'
  have hG : ((w.alloc (.cells #[.string (bstr r), .string (bstr c), .int .u64 v, .bool g, .string (bstr x)] 38)).alloc (.cells #[.string (bstr r'), .string (bstr c'), .int .u64 v', .bool g', .string (bstr x')] 38)) = grow w #[.cells #[.string (bstr r), .string (bstr c), .int .u64 v, .bool g, .string (bstr x)] 38, .cells #[.string (bstr r'), .string (bstr c'), .int .u64 v', .bool g', .string (bstr x')] 38] := by rw [alloc_eq_grow, alloc_eq_grow, grow_grow]; rfl
  have HG : Hid _ := hG
  clear hG
  go_enter Try.func29, Try.ntmps29
  go_wp2_with fail
  generalize hW : ((w.alloc (.cells #[.string (bstr r), .string (bstr c), .int .u64 v, .bool g, .string (bstr x)] 38)).alloc (.cells #[.string (bstr r'), .string (bstr c'), .int .u64 v', .bool g', .string (bstr x')] 38)) = W at *
  have ra : CellAt W w.heap.size r c v g x := by rw [← hW]; exact (CellAt.new w 38 r c v g x).alloc _
  have rb : CellAt W (w.heap.size + 1) r' c' v' g' x' := by rw [← hW]; exact CellAt.new2 w _ 38 r' c' v' g' x'
  have l0 := ra.lt
  have l1 := rb.lt
  obtain ⟨a0, a1, a2, _, _⟩ := id ra
  obtain ⟨b0, b1, b2, _, _⟩ := id rb
  clear hW
  go_region_held3 (fun w' => w'.cell? ⟨w.heap.size, 0, none⟩ = some (.string (bstr r)) ∧ w'.cell? ⟨w.heap.size, 1, none⟩ = some (.string (bstr c)) ∧ w'.cell? ⟨w.heap.size, 2, none⟩ = some (.int .u64 v) ∧ w'.cell? ⟨w.heap.size + 1, 0, none⟩ = some (.string (bstr r')) ∧ w'.cell? ⟨w.heap.size + 1, 1, none⟩ = some (.string (bstr c')) ∧ w'.cell? ⟨w.heap.size + 1, 2, none⟩ = some (.int .u64 v')) (go_keep)
    (first
      | (go_at_call 48; refine (Compare_any _ _ _).mono ?_; rintro e w' ⟨rfl, rfl⟩)
      | (go_at_call 49; refine (CompareU_any _ _ _).mono ?_; rintro e w' ⟨rfl, rfl⟩)
      | (go_at_call 47; refine (Or_any _ (ct r r') (ct c c') (Lib.compareInt v' v) _ (by go_simp) (by go_simp) (by go_simp)).mono ?_; rintro e w' ⟨rfl, rfl⟩))
  go_wp2
  go_ret
  exact ⟨rfl, grow_end _ HG.out⟩

end Go.Proofs.Ytlkikfkchgmmhaa
