/-
  Files of a state: how one, a list of them, and a list of lists lie in memory; '==' of two.
-/
import Derived.Test.YtnfnlfdplnekgaaDoorGVWir
import Derived.Laws.StructEq
import Derived.Laws.AppendOwn
import Derived.Sort.Grow
namespace Go.Proofs.YtnfnlfdplnekgaaDoor
open Go.RowKit Go.BigFrame Go.Sort
attribute [local go_sem] size_bstr toList_bstr

/-- A file of a state. -/
structure Fi where
  id : Nat
  low : List UInt8
  high : List UInt8
  n : Int
abbrev fiV (f : Fi) : Value := .agg #[.int .u64 (f.id : Int), .string (bstr f.low), .string (bstr f.high), .int .i64 f.n]
/-- A file's four cells of memory. -/
def encF (f : Fi) : List Value := [.int .u64 (f.id : Int), .string (bstr f.low), .string (bstr f.high), .int .i64 f.n]
def fcells (fs : List Fi) : List Value := fs.flatMap encF
theorem fcells_length (cs : List Fi) : (fcells cs).length = cs.length * 4 := by
  induction cs with
  | nil => rfl
  | cons r rs ih => rw [fcells, List.flatMap_cons, List.length_append]; rw [fcells] at ih; rw [ih]; simp [encF]; omega
theorem fcells_append (a b : List Fi) : fcells (a ++ b) = fcells a ++ fcells b := by simp [fcells]
theorem fcells_get (cs : List Fi) (i : Nat) (hi : i < cs.length) : ∀ j, j < 4 → (fcells cs)[i * 4 + j]? = (encF cs[i])[j]? := by
  induction cs generalizing i with
  | nil => simp at hi
  | cons r rs ih =>
    intro j hj
    cases i with
    | zero =>
      rw [fcells, List.flatMap_cons, Nat.zero_mul, Nat.zero_add, List.getElem?_append_left (by simpa [encF] using hj)]
      rfl
    | succ i =>
      rw [fcells, List.flatMap_cons, List.getElem?_append_right (by simp [encF]; omega)]
      have e : (i + 1) * 4 + j - (encF r).length = i * 4 + j := by simp [encF]; omega
      rw [e]
      exact ih i (by simpa using hi) j hj
theorem encF_one (c : Fi) : ∀ v ∈ encF c, v.oneCell' = true := by
  intro v hv
  simp [encF] at hv
  rcases hv with rfl | rfl | rfl | rfl <;> rfl
theorem fcells_one (cs : List Fi) : ∀ v ∈ fcells cs, v.oneCell' = true := by
  intro v hv
  obtain ⟨c, _, h⟩ := List.mem_flatMap.1 hv
  exact encF_one c v h

/-- A file lies at a place. -/
structure FAt (W : World) (b o : Nat) (f : Fi) : Prop where
  c0 : W.cell? ⟨b, o, none⟩ = some (.int .u64 (f.id : Int))
  c1 : W.cell? ⟨b, o + 1, none⟩ = some (.string (bstr f.low))
  c2 : W.cell? ⟨b, o + 2, none⟩ = some (.string (bstr f.high))
  c3 : W.cell? ⟨b, o + 3, none⟩ = some (.int .i64 f.n)
theorem FAt.lt {W : World} {b o : Nat} {c : Fi} (h : FAt W b o c) : b < W.heap.size := block_lt_of_cell h.c0
theorem FAt.same {W W' : World} {b o : Nat} {c : Fi} (h : FAt W b o c) (hc : ∀ o, W'.cell? ⟨b, o, none⟩ = W.cell? ⟨b, o, none⟩) : FAt W' b o c :=
  ⟨by rw [hc]; exact h.c0, by rw [hc]; exact h.c1, by rw [hc]; exact h.c2, by rw [hc]; exact h.c3⟩
theorem FAt.step {W W' : World} {b o : Nat} {c : Fi} {B : Nat} (h : FAt W b o c) (hb : Below B W W') (hB : b < B) : FAt W' b o c :=
  h.same fun o => (bcell hb).1 b o hB
theorem FAt.new (W : World) (t : TypeId) (f : Fi) : FAt (W.alloc (.cells #[.int .u64 (f.id : Int), .string (bstr f.low), .string (bstr f.high), .int .i64 f.n] t)) W.heap.size 0 f := by
  exact ⟨by rw [World.cell?_alloc_at _ t W.heap.size 0 rfl]; rfl, by rw [World.cell?_alloc_at _ t W.heap.size 1 rfl]; rfl, by rw [World.cell?_alloc_at _ t W.heap.size 2 rfl]; rfl, by rw [World.cell?_alloc_at _ t W.heap.size 3 rfl]; rfl⟩
/-- A row of files lies in a block. -/
def VRow (W : World) (b off : Nat) (cs : List Fi) : Prop := ∀ i (hi : i < cs.length), FAt W b (off + i * 4) cs[i]
theorem VRow.same {W W' : World} {b off : Nat} {cs : List Fi} (h : VRow W b off cs) (hc : ∀ o, W'.cell? ⟨b, o, none⟩ = W.cell? ⟨b, o, none⟩) : VRow W' b off cs := fun i hi => (h i hi).same hc
theorem VRow.step {W W' : World} {b off : Nat} {cs : List Fi} {B : Nat} (h : VRow W b off cs) (hb : Below B W W') (hB : b < B) : VRow W' b off cs := fun i hi => (h i hi).step hb hB
theorem VRow.take {W : World} {b off : Nat} {cs : List Fi} (h : VRow W b off cs) (k : Nat) : VRow W b off (cs.take k) := by
  intro i hi
  rw [List.getElem_take]
  exact h i (by rw [List.length_take] at hi; omega)
theorem VRow.cells {W : World} {b off : Nat} {cs : List Fi} (h : VRow W b off cs) : ∀ j u, (fcells cs)[j]? = some u → W.cell? ((⟨b, off, none⟩ : Addr).add j) = some u := by
  intro j u hj
  have hlt : j < (fcells cs).length := by
    by_cases x : j < (fcells cs).length
    · exact x
    · rw [List.getElem?_eq_none (by omega)] at hj; cases hj
  rw [fcells_length] at hlt
  have hi : j / 4 < cs.length := by omega
  have e : j / 4 * 4 + j % 4 = j := by omega
  rw [← e, fcells_get cs (j / 4) hi (j % 4) (Nat.mod_lt _ (by omega))] at hj
  obtain ⟨a0, a1, a2, a3⟩ := h (j / 4) hi
  rw [Addr.add_lit, ← e, ← Nat.add_assoc]
  generalize j % 4 = m at hj ⊢
  match m, hj with
  | 0, hj => simp [encF] at hj; subst hj; exact a0
  | 1, hj => simp [encF] at hj; subst hj; exact a1
  | 2, hj => simp [encF] at hj; subst hj; exact a2
  | 3, hj => simp [encF] at hj; subst hj; exact a3
  | n + 4, hj => simp [encF] at hj
theorem VRow.of_cells {W : World} {b off : Nat} {cs : List Fi} (h : ∀ j u, (fcells cs)[j]? = some u → W.cell? ((⟨b, off, none⟩ : Addr).add j) = some u) : VRow W b off cs := by
  intro i hi
  have g := fun j hj => fcells_get cs i hi j hj
  refine ⟨?_, ?_, ?_, ?_⟩
  · have := h _ _ (g 0 (by omega)); rw [Addr.add_lit] at this; exact this
  · have := h _ _ (g 1 (by omega)); rw [Addr.add_lit, ← Nat.add_assoc] at this; exact this
  · have := h _ _ (g 2 (by omega)); rw [Addr.add_lit, ← Nat.add_assoc] at this; exact this
  · have := h _ _ (g 3 (by omega)); rw [Addr.add_lit, ← Nat.add_assoc] at this; exact this

/-- A list of files, as a value that is read. -/
structure VArg (w : World) (v : Value) (fs : List Fi) : Prop where
  sl : ∃ q cap, v = .slice q fs.length cap ∧ fs.length ≤ cap ∧ (0 < fs.length → ∃ b off, q = some ⟨b, off, none⟩ ∧ b < w.heap.size ∧ VRow w b off fs)
theorem VArg.below {w w' : World} {v : Value} {fs : List Fi} (h : VArg w v fs) (hb : Below w.heap.size w w') : VArg w' v fs := by
  obtain ⟨q, cap, rfl, hc, h⟩ := h.sl
  refine ⟨q, cap, rfl, hc, fun h0 => ?_⟩
  obtain ⟨b, off, rfl, hl, hr⟩ := h h0
  exact ⟨b, off, rfl, Nat.lt_of_lt_of_le hl hb.size, hr.step hb hl⟩
/-- A row that the call owns. -/
theorem own_varg {w : World} {B e : Nat} {v : Value} {cs : List Fi} (h : w.ownsRow B e 4 v cs.length (fcells cs)) : VArg w v cs := by
  rcases h.2 with ⟨rfl, h0⟩ | ⟨g, cap, cur, hv, hbg, hg, hnc, hcm, hcs, htake⟩
  · exact ⟨none, 0, by rw [h0], by omega, fun h1 => by omega⟩
  · have hlt : g < w.heap.size := by
      by_cases hl : g < w.heap.size
      · exact hl
      · rw [Array.getElem?_eq_none (Nat.le_of_not_lt hl)] at hg
        exact absurd hg (by simp)
    exact ⟨_, cap, hv, hnc, fun _ => ⟨g, 0, rfl, hlt, VRow.of_cells (h.cells (g := g) (by rw [hv]; rfl))⟩⟩

theorem Tryd.infoFile : (Tryd.prog.info? 48).map (fun i => (i.zero, i.size, i.bytes)) = some (some (.agg #[.int .u64 0, .string ⟨#[]⟩, .string ⟨#[]⟩, .int .i64 0]), 4, 48) := by kernel_rfl
theorem Tryd.infoLvl : (Tryd.prog.info? 46).map (fun i => (i.zero, i.size, i.bytes)) = some (some (.slice none 0 0), 1, 24) := by kernel_rfl

/-- A list of lists, as a value that is read. -/
structure LArg (w : World) (v : Value) (vs : List Value) (lv : List (List Fi)) : Prop where
  len : vs.length = lv.length
  sl : ∃ q cap, v = .slice q lv.length cap ∧ lv.length ≤ cap ∧ (0 < lv.length → ∃ b off, q = some ⟨b, off, none⟩ ∧ b < w.heap.size ∧ ∀ (k : Nat) (u : Value), vs[k]? = some u → w.cell? ⟨b, off + k, none⟩ = some u)
  arg : ∀ (k : Nat) (u : Value) (l : List Fi), vs[k]? = some u → lv[k]? = some l → VArg w u l
theorem LArg.below {w w' : World} {v : Value} {vs : List Value} {lv : List (List Fi)} (h : LArg w v vs lv) (hb : Below w.heap.size w w') : LArg w' v vs lv := by
  obtain ⟨q, cap, rfl, hc, h1⟩ := h.sl
  refine ⟨h.len, ⟨q, cap, rfl, hc, fun h0 => ?_⟩, fun k u l a b => (h.arg k u l a b).below hb⟩
  obtain ⟨b, off, rfl, hl, hr⟩ := h1 h0
  exact ⟨b, off, rfl, Nat.lt_of_lt_of_le hl hb.size, fun k u hu => by rw [hb.cell (p := ⟨b, off + k, none⟩) hl]; exact hr k u hu⟩
/-- What is kept for a list of lists to lie on: the blocks that it lies in. -/
theorem LArg.at_ {w : World} {v : Value} {vs : List Value} {lv : List (List Fi)} (h : LArg w v vs lv) {i : Nat} (hi : i < lv.length) : ∃ b off cap u, v = .slice (some ⟨b, off, none⟩) lv.length cap ∧ vs[i]? = some u ∧ w.cell? ⟨b, off + i, none⟩ = some u ∧ VArg w u lv[i] := by
  obtain ⟨q, cap, rfl, hc, h1⟩ := h.sl
  obtain ⟨b, off, rfl, hl, hr⟩ := h1 (by omega)
  have hv : i < vs.length := by rw [h.len]; exact hi
  exact ⟨b, off, cap, vs[i], rfl, List.getElem?_eq_getElem hv, hr i _ (List.getElem?_eq_getElem hv), h.arg i _ _ (List.getElem?_eq_getElem hv) (List.getElem?_eq_getElem hi)⟩

/-! ### '==' of two files -/
def eqF (a b : Fi) : Bool := decide (a.id = b.id) && a.low == b.low && a.high == b.high && decide (a.n = b.n)
theorem eqF_iff {a b : Fi} : eqF a b = true ↔ a = b := by
  cases a
  cases b
  simp [eqF, and_assoc]
theorem eqF_self (a : Fi) : eqF a a = true := eqF_iff.2 rfl
theorem eqFields_file (a b : Fi) (w : World) : (Op.equalIn 10000 48 (fiV a) (fiV b)).run Tryd.prog w = .ok (eqF a b) w := by
  have hS : Tryd.prog.underlying 48 = some (.struct (Tryd.prog.fieldsOf 48)) := by kernel_rfl
  have hp : Tryd.prog.stoodInHeld 48 = false := by kernel_rfl
  have u := Tryd.underlying9
  have ag := Tryd.isAgg9
  have sz := Tryd.sizeOf9
  have u2 := Tryd.underlying25
  have ag2 := Tryd.isAgg25
  have sz2 := Tryd.sizeOf25
  have u3 := Tryd.underlying3
  have ag3 := Tryd.isAgg3
  have sz3 := Tryd.sizeOf3
  rw [show (10000 : Nat) = 9999 + 1 from rfl, run_equalIn_agg w 9999 48 _ _ hS hp]
  simp only [Program.fieldsOf, Tryd.underlying48]
  go_simp
  obtain ⟨r, c, v, g⟩ := a
  obtain ⟨r', c', v', g'⟩ := b
  simp only [eqF]
  by_cases h1 : r = r' <;> by_cases h2 : c = c' <;> by_cases h3 : v = v' <;> by_cases h4 : g = g' <;> simp [h1, h2, h3, h4] <;> omega
theorem file_eql (a b : Fi) (w : World) : (binOp .eql 48 (fiV a) (fiV b)).run Tryd.prog w = .ok (.bool (eqF a b)) w := by
  rw [run_eql_struct, eqFields_file]
  rfl
theorem file_neq (a b : Fi) (w : World) : (binOp .neq 48 (fiV a) (fiV b)).run Tryd.prog w = .ok (.bool (!eqF a b)) w := by
  rw [run_neq_struct, eqFields_file]
  rfl
theorem file_guard (op : BinOp) (x y : Operand) (xs ys : Array Value) (w : World) : (eqGuard op 48 x y (.agg xs) (.agg ys)).run Tryd.prog w = .ok () w :=
  run_eqGuard_agg w op _ x y xs ys (by kernel_rfl)

end Go.Proofs.YtnfnlfdplnekgaaDoor
