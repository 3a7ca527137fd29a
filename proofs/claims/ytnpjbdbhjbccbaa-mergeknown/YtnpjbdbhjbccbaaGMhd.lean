/-
  merge.All: its list of rows with their next cells, in memory; slices.IndexFunc, DeleteFunc over it.
  merge.All: slices.DeleteFunc, MinFunc over its list.
  merge.All: slices.MinFunc over its list.
-/
import Derived.Test.YtnpjbdbhjbccbaaMList
import Derived.Lib.SliceRun
namespace Go.Proofs.Ytnpjbdbhjbccbaa
open Go.RowKit Go.BigFrame Go.Sort
attribute [local go_sem] size_bstr toList_bstr ls_def

/-- A row (what its function captured), its next cell, and whether that is to be told. -/
structure Hd where
  cp : Array Value
  nx : Cl
  has : Bool
abbrev hV (h : Hd) : Value := .agg #[.func (.func 60) #[] h.cp, .string (bstr h.nx.row), .string (bstr h.nx.col), .int .u64 h.nx.ver, .bool h.nx.gone, .string (bstr h.nx.val), .bool h.has]
def hObj (h : Hd) : Obj := .cells #[.func (.func 60) #[] h.cp, .string (bstr h.nx.row), .string (bstr h.nx.col), .int .u64 h.nx.ver, .bool h.nx.gone, .string (bstr h.nx.val), .bool h.has] 51 (0, 0)
structure At7 (W : World) (b o : Nat) (h : Hd) : Prop where
  c0 : W.cell? ⟨b, o, none⟩ = some (.func (.func 60) #[] h.cp)
  c1 : W.cell? ⟨b, o + 1, none⟩ = some (.string (bstr h.nx.row))
  c2 : W.cell? ⟨b, o + 2, none⟩ = some (.string (bstr h.nx.col))
  c3 : W.cell? ⟨b, o + 3, none⟩ = some (.int .u64 h.nx.ver)
  c4 : W.cell? ⟨b, o + 4, none⟩ = some (.bool h.nx.gone)
  c5 : W.cell? ⟨b, o + 5, none⟩ = some (.string (bstr h.nx.val))
  c6 : W.cell? ⟨b, o + 6, none⟩ = some (.bool h.has)
theorem At7.of_cells {W W' : World} {b o : Nat} {h : Hd} (k : At7 W b o h) (hc : ∀ x, o ≤ x → x < o + 7 → W'.cell? ⟨b, x, none⟩ = W.cell? ⟨b, x, none⟩) : At7 W' b o h :=
  ⟨(hc _ (by omega) (by omega)).trans k.c0, (hc _ (by omega) (by omega)).trans k.c1, (hc _ (by omega) (by omega)).trans k.c2, (hc _ (by omega) (by omega)).trans k.c3, (hc _ (by omega) (by omega)).trans k.c4, (hc _ (by omega) (by omega)).trans k.c5, (hc _ (by omega) (by omega)).trans k.c6⟩
theorem hObj_at {w : World} {b : Nat} {h : Hd} (k : w.heap[b]? = some (hObj h)) : At7 w b 0 h := by
  have h1 := (mcells k).1
  exact ⟨h1 0, h1 1, h1 2, h1 3, h1 4, h1 5, h1 6⟩
/-- The list lies in block b. -/
structure HB (w : World) (b : Nat) (xs : List Hd) : Prop where
  blk : ∃ cur, w.heap[b]? = some (.cells cur 51 (0, 0)) ∧ xs.length * 7 ≤ cur.size
  row : ∀ i h, xs[i]? = some h → At7 w b (i * 7) h
theorem HB.lt {w : World} {b : Nat} {xs : List Hd} (h : HB w b xs) : b < w.heap.size := by
  obtain ⟨cur, h1, _⟩ := h.blk
  exact blk_lt h1
theorem HB.kept {w w' : World} {b : Nat} {xs : List Hd} (h : HB w b xs) (e : w'.heap[b]? = w.heap[b]?) : HB w' b xs := by
  obtain ⟨cur, h1, h2⟩ := h.blk
  exact ⟨⟨cur, e.trans h1, h2⟩, fun i x hx => (h.row i x hx).of_cells fun _ _ _ => World.cell?_of_block e⟩
theorem HB.below {w w' : World} {b : Nat} {xs : List Hd} (h : HB w b xs) (hb : Below w.heap.size w w') : HB w' b xs := h.kept (hb.block b h.lt)
theorem HB.take {w : World} {b : Nat} {xs : List Hd} (h : HB w b xs) (k : Nat) : HB w b (xs.take k) := by
  obtain ⟨cur, h1, h2⟩ := h.blk
  refine ⟨⟨cur, h1, by rw [List.length_take]; omega⟩, fun i x hx => h.row i x ?_⟩
  rw [List.getElem?_take] at hx
  split at hx
  · exact hx
  · cases hx
/-- What is there to be stored to. -/
theorem HB.live {w : World} {b : Nat} {xs : List Hd} (h : HB w b xs) {i : Nat} (hi : i < xs.length) : ∃ u0 u1 u2 u3 u4 u5 u6, w.cell? ⟨b, i * 7, none⟩ = some u0 ∧ w.cell? ⟨b, i * 7 + 1, none⟩ = some u1 ∧ w.cell? ⟨b, i * 7 + 2, none⟩ = some u2 ∧ w.cell? ⟨b, i * 7 + 3, none⟩ = some u3 ∧ w.cell? ⟨b, i * 7 + 4, none⟩ = some u4 ∧ w.cell? ⟨b, i * 7 + 5, none⟩ = some u5 ∧ w.cell? ⟨b, i * 7 + 6, none⟩ = some u6 ∧
    w.frozen? ⟨b, i * 7, none⟩ = false ∧ w.frozen? ⟨b, i * 7 + 1, none⟩ = false ∧ w.frozen? ⟨b, i * 7 + 2, none⟩ = false ∧ w.frozen? ⟨b, i * 7 + 3, none⟩ = false ∧ w.frozen? ⟨b, i * 7 + 4, none⟩ = false ∧ w.frozen? ⟨b, i * 7 + 5, none⟩ = false ∧ w.frozen? ⟨b, i * 7 + 6, none⟩ = false := by
  obtain ⟨cur, h1, h2⟩ := h.blk
  obtain ⟨a, z⟩ := mcells h1
  exact ⟨_, _, _, _, _, _, _, (a _).trans (Array.getElem?_eq_getElem (by omega)), (a _).trans (Array.getElem?_eq_getElem (by omega)), (a _).trans (Array.getElem?_eq_getElem (by omega)), (a _).trans (Array.getElem?_eq_getElem (by omega)), (a _).trans (Array.getElem?_eq_getElem (by omega)), (a _).trans (Array.getElem?_eq_getElem (by omega)), (a _).trans (Array.getElem?_eq_getElem (by omega)), z _, z _, z _, z _, z _, z _, z _⟩
/-- Blocks that differ in some cells of one element. -/
theorem HB.of {w w' : World} {b : Nat} {xs : List Hd} (h : HB w b xs) {i : Nat} {x : Hd} (hi : i < xs.length) (hb : ∃ cur', w'.heap[b]? = some (.cells cur' 51 (0, 0)) ∧ ∀ cur, w.heap[b]? = some (.cells cur 51 (0, 0)) → cur'.size = cur.size) (hx : At7 w' b (i * 7) x) (ho : ∀ p, p < i * 7 ∨ i * 7 + 7 ≤ p → w'.cell? ⟨b, p, none⟩ = w.cell? ⟨b, p, none⟩) : HB w' b (xs.set i x) := by
  obtain ⟨cur, h1, h2⟩ := h.blk
  obtain ⟨cur', k1, k2⟩ := hb
  refine ⟨⟨cur', k1, by rw [List.length_set, k2 cur h1]; exact h2⟩, fun j y hy => ?_⟩
  rw [List.getElem?_set] at hy
  split at hy
  · rename_i e
    subst e
    cases hy
    exact hx
  · exact (h.row j y hy).of_cells fun p h3 h4 => ho p (by omega)
theorem HB.put {w w' : World} {b : Nat} {xs : List Hd} (h : HB w b xs) {i : Nat} {x : Hd} (hi : i < xs.length)
    (hw : ((((((w.setCell ⟨b, i * 7, none⟩ (.func (.func 60) #[] x.cp)).setCell ⟨b, i * 7 + 1, none⟩ (.string (bstr x.nx.row))).setCell ⟨b, i * 7 + 2, none⟩ (.string (bstr x.nx.col))).setCell ⟨b, i * 7 + 3, none⟩ (.int .u64 x.nx.ver)).setCell ⟨b, i * 7 + 4, none⟩ (.bool x.nx.gone)).setCell ⟨b, i * 7 + 5, none⟩ (.string (bstr x.nx.val))).setCell ⟨b, i * 7 + 6, none⟩ (.bool x.has) = w') :
    HB w' b (xs.set i x) := by
  obtain ⟨cur, h1, h2⟩ := h.blk
  have hb := heap_set_same (o := i * 7 + 6) (heap_set_same (o := i * 7 + 5) (heap_set_same (o := i * 7 + 4) (heap_set_same (o := i * 7 + 3) (heap_set_same (o := i * 7 + 2) (heap_set_same (o := i * 7 + 1) (heap_set_same (o := i * 7) h1 (.func (.func 60) #[] x.cp)) (.string (bstr x.nx.row))) (.string (bstr x.nx.col))) (.int .u64 x.nx.ver)) (.bool x.nx.gone)) (.string (bstr x.nx.val))) (.bool x.has)
  rw [hw] at hb
  refine h.of hi ⟨_, hb, fun c hc => by rw [h1] at hc; cases hc; simp⟩ ?_ ?_
  · have hc := (mcells hb).1
    refine ⟨?_, ?_, ?_, ?_, ?_, ?_, ?_⟩ <;> (rw [hc]; simp [Array.getElem?_setIfInBounds]; try omega)
  · intro p hp
    rw [(mcells hb).1, (mcells h1).1]
    simp only [Array.getElem?_setIfInBounds]
    (repeat' split) <;> first | rfl | (exfalso; omega)
theorem HB.putN {w w' : World} {b : Nat} {xs : List Hd} (h : HB w b xs) {i : Nat} {x : Hd} {c : Cl} {z : Bool} (hi : xs[i]? = some x)
    (hw : (((((w.setCell ⟨b, i * 7 + 1, none⟩ (.string (bstr c.row))).setCell ⟨b, i * 7 + 2, none⟩ (.string (bstr c.col))).setCell ⟨b, i * 7 + 3, none⟩ (.int .u64 c.ver)).setCell ⟨b, i * 7 + 4, none⟩ (.bool c.gone)).setCell ⟨b, i * 7 + 5, none⟩ (.string (bstr c.val))).setCell ⟨b, i * 7 + 6, none⟩ (.bool z) = w') :
    HB w' b (xs.set i ⟨x.cp, c, z⟩) := by
  obtain ⟨hil, _⟩ := List.getElem?_eq_some_iff.1 hi
  obtain ⟨cur, h1, h2⟩ := h.blk
  have hx := (h.row i x hi).c0
  rw [(mcells h1).1] at hx
  have hb := heap_set_same (o := i * 7 + 6) (heap_set_same (o := i * 7 + 5) (heap_set_same (o := i * 7 + 4) (heap_set_same (o := i * 7 + 3) (heap_set_same (o := i * 7 + 2) (heap_set_same (o := i * 7 + 1) h1 (.string (bstr c.row))) (.string (bstr c.col))) (.int .u64 c.ver)) (.bool c.gone)) (.string (bstr c.val))) (.bool z)
  rw [hw] at hb
  refine h.of hil ⟨_, hb, fun c hc => by rw [h1] at hc; cases hc; simp⟩ ?_ ?_
  · have hc := (mcells hb).1
    refine ⟨?_, ?_, ?_, ?_, ?_, ?_, ?_⟩
    · rw [hc]
      simp only [Array.getElem?_setIfInBounds]
      (repeat' split) <;> first | exact hx | (exfalso; omega)
    all_goals (rw [hc]; simp [Array.getElem?_setIfInBounds]; try omega)
  · intro p hp
    rw [(mcells hb).1, (mcells h1).1]
    simp only [Array.getElem?_setIfInBounds]
    (repeat' split) <;> first | rfl | (exfalso; omega)
theorem HB.putB {w w' : World} {b : Nat} {xs : List Hd} (h : HB w b xs) {i : Nat} {x : Hd} {z : Bool} (hi : xs[i]? = some x) (hw : w.setCell ⟨b, i * 7 + 6, none⟩ (.bool z) = w') : HB w' b (xs.set i ⟨x.cp, x.nx, z⟩) := by
  obtain ⟨hil, _⟩ := List.getElem?_eq_some_iff.1 hi
  obtain ⟨cur, h1, h2⟩ := h.blk
  have hb := heap_set_same (o := i * 7 + 6) h1 (.bool z)
  rw [hw] at hb
  have hk : ∀ p, p ≠ i * 7 + 6 → w'.cell? ⟨b, p, none⟩ = w.cell? ⟨b, p, none⟩ := fun p hp => by
    rw [(mcells hb).1, (mcells h1).1, Array.getElem?_setIfInBounds, if_neg (by omega)]
  refine h.of hil ⟨_, hb, fun c hc => by rw [h1] at hc; cases hc; simp⟩ ?_ (fun p hp => hk p (by omega))
  obtain ⟨q0, q1, q2, q3, q4, q5, q6⟩ := h.row i x hi
  refine ⟨(hk _ (by omega)).trans q0, (hk _ (by omega)).trans q1, (hk _ (by omega)).trans q2, (hk _ (by omega)).trans q3, (hk _ (by omega)).trans q4, (hk _ (by omega)).trans q5, ?_⟩
  rw [(mcells hb).1, Array.getElem?_setIfInBounds, if_pos rfl, if_pos (by omega)]

set_option maxHeartbeats 1000000 in
theorem del_any (h : Hd) (w : World) : Calls Try.prog 33 #[hV h] w fun e w' => e = .returned (.bool (!h.has)) ∧ Below w.heap.size w w' := by
  go_enter Try.func33, Try.ntmps33
  go_wp2
  go_ret
  exact ⟨rfl, (Below.refl _ _).alloc (Nat.le_refl _) _⟩
set_option maxHeartbeats 1000000 in
theorem hcmp_any (a b : Hd) (w : World) : Calls Try.prog 35 #[hV a, hV b] w fun e w' => e = .returned (.int .i64 (ccl a.nx b.nx)) ∧ Below w.heap.size w w' := by
  have hcon := fun W => Cmp_any a.nx.row a.nx.col a.nx.ver a.nx.gone a.nx.val b.nx.row b.nx.col b.nx.ver b.nx.gone b.nx.val W
  have hcv : ccl a.nx b.nx = cc a.nx.row a.nx.col a.nx.ver b.nx.row b.nx.col b.nx.ver := rfl
  rw [hcv]
  clear hcv
  generalize cc a.nx.row a.nx.col a.nx.ver b.nx.row b.nx.col b.nx.ver = cv at *
  go_enter Try.func35, Try.ntmps35
  go_wp2_with fail
  refine (hcon _).mono ?_
  rintro e w1 ⟨rfl, hb1⟩
  go_wp2
  go_ret
  exact ⟨rfl, below2 (((Below.refl _ _).alloc (Nat.le_refl _) _).alloc (by simp) _) hb1⟩

set_option maxHeartbeats 2000000 in
set_option maxRecDepth 100000 in
theorem HIndex_any (b cap : Nat) (hs : List Hd) (w : World) (hH : HB w b hs) (hn : hs.length ≤ 100000) :
    Calls Try.prog 54 #[.slice (some ⟨b, 0, none⟩) hs.length cap, .func (.func 33) #[] #[]] w fun e w' => Below w.heap.size w w' ∧
      (e = .returned (.int .i64 (-1)) ∧ (∀ x ∈ hs, x.has = true) ∨ ∃ (i : Nat) (x : Hd), e = .returned (.int .i64 (i : Int)) ∧ hs[i]? = some x ∧ x.has = false ∧ ∀ y ∈ hs.take i, y.has = true) := by
  go_enter Try.func54, Try.ntmps54
  go_wp2
  go_loopw [8] (fun s8 wr => ∃ i : Nat, s8 = .int .i64 (i : Int) ∧ i ≤ hs.length ∧ Hid (∀ y ∈ hs.take i, y.has = true) ∧ Below w.heap.size w wr) (fun s8 _ => hs.length - (intOf s8).toNat)
  case atStart => exact ⟨0, rfl, by omega, by show ∀ _ _, _; intro y h; simp at h, Below.refl _ _⟩
  case round =>
    obtain ⟨i, rfl, hil, HJ, hbel⟩ := hrel
    by_cases hlt : i < hs.length
    · obtain ⟨x, hx⟩ : ∃ x, hs[i]? = some x := ⟨_, List.getElem?_eq_getElem hlt⟩
      obtain ⟨c0, c1, c2, c3, c4, c5, c6⟩ := (hH.kept (hbel.block b hH.lt)).row i x hx
      have hcon := fun W => del_any x W
      have HX : Hid _ := hx
      clear hx
      obtain ⟨cp, c, z⟩ := x
      simp only at c0 c1 c2 c3 c4 c5 c6
      go_wp2_with fail
      refine (hcon _).mono ?_
      rintro e w1 ⟨rfl, hb1⟩
      have hbe := below2 hbel hb1
      clear c0 c1 c2 c3 c4 c5 c6 hcon
      cases z with
      | false =>
        go_wp2
        go_ret
        exact ⟨hbe, .inr ⟨i, _, rfl, HX.out, rfl, HJ.out⟩⟩
      | true =>
        have HJ2 : Hid (∀ y ∈ hs.take (i + 1), y.has = true) := by
          show ∀ _ _, _
          intro y hy
          rw [List.take_add_one, HX.out] at hy
          rcases List.mem_append.1 hy with h | h
          · exact HJ.out y h
          · simp at h; rw [h]
        clear HJ
        go_wp2
        go_roundw
        case rel => exact ⟨i + 1, by go_num, by omega, HJ2, hbe⟩
        case measure => simp [intOf]; omega
    · have hie : i = hs.length := by omega
      subst hie
      go_wp2
      go_ret
      exact ⟨hbel, .inl ⟨rfl, fun y hy => HJ.out y (by rw [List.take_length]; exact hy)⟩⟩

end Go.Proofs.Ytnpjbdbhjbccbaa

namespace Go.Proofs.Ytnpjbdbhjbccbaa
open Go.RowKit Go.BigFrame Go.Sort
attribute [local go_sem] size_bstr toList_bstr ls_def

theorem kp_setCells (g : Nat) : ∀ (vs : List Value) (o : Nat) (w : World), Kp w (w.setCells g o vs) (fun i => i = g)
  | [], _, _ => Kp.refl _ _
  | v :: vs, o, w => ((Kp.refl w (fun i => i = g)).setCell (b := g) (o := o) v (Or.inl rfl)).trans (kp_setCells g vs (o + 1) _) (fun _ h => Or.inl h)
theorem blk_setCells (g : Nat) : ∀ (vs : List Value) (o : Nat) (w : World) (cur : Array Value) (t : TypeId), w.heap[g]? = some (.cells cur t (0, 0)) → ∃ cur', (w.setCells g o vs).heap[g]? = some (.cells cur' t (0, 0)) ∧ cur'.size = cur.size
  | [], _, _, cur, _, h => ⟨cur, h, rfl⟩
  | v :: vs, o, w, cur, t, h => by
    obtain ⟨cur', h1, h2⟩ := blk_setCells g vs (o + 1) (w.setCell ⟨g, o, none⟩ v) _ t (heap_set_same h v)
    exact ⟨cur', h1, by rw [h2]; simp⟩
/-- 'clear(s)' over the list's end. -/
theorem clear_heads (w : World) (ty : TypeId) (g i n c : Nat) (hn : 0 < n) {cur : Array Value} (hL : w.heap[g]? = some (.cells cur 51 (0, 0))) (hz : (i + n) * 7 ≤ cur.size) :
    ∃ vs, (Builtin.clear_ #[49] ty #[.slice (some ⟨g, i * 7, none⟩) n c]).run Try.prog w = .ok (.tuple #[]) (w.setCells g (i * 7) vs) := by
  have hv : ∀ w, (zeroValue 51).run Try.prog w = .ok (.agg #[.nilFunc, .string ⟨#[]⟩, .string ⟨#[]⟩, .int .u64 0, .bool false, .string ⟨#[]⟩, .bool false]) w := Try.zeroValue51
  refine ⟨(Builtin.zeroCells (Value.agg #[.nilFunc, .string ⟨#[]⟩, .string ⟨#[]⟩, .int .u64 0, .bool false, .string ⟨#[]⟩, .bool false]).cells n).toList, ?_⟩
  have hlen : (Builtin.zeroCells (Value.agg #[.nilFunc, .string ⟨#[]⟩, .string ⟨#[]⟩, .int .u64 0, .bool false, .string ⟨#[]⟩, .bool false]).cells n).toList.length = n * 7 := by
    simp [Builtin.zeroCells, Value.cells]
  have hone : ∀ v ∈ (Builtin.zeroCells (Value.agg #[.nilFunc, .string ⟨#[]⟩, .string ⟨#[]⟩, .int .u64 0, .bool false, .string ⟨#[]⟩, .bool false]).cells n).toList, v.oneCell' = true := by
    intro v hv'
    simp only [Builtin.zeroCells, Value.cells, Array.toList_map, List.mem_map] at hv'
    obtain ⟨k, _, rfl⟩ := hv'
    have hk : k % 7 < 7 := Nat.mod_lt _ (by omega)
    show ((#[Value.nilFunc, .string ⟨#[]⟩, .string ⟨#[]⟩, .int .u64 0, .bool false, .string ⟨#[]⟩, .bool false] : Array Value)[k % 7]!).oneCell' = true
    generalize k % 7 = m at hk
    match m, hk with
    | 0, _ => rfl
    | 1, _ => rfl
    | 2, _ => rfl
    | 3, _ => rfl
    | 4, _ => rfl
    | 5, _ => rfl
    | 6, _ => rfl
  have hst := run_storeCells_cells (P := Try.prog) g (i * 7) _ 0 w (by
    intro j hj
    rw [hlen] at hj
    rw [Nat.add_zero, (mcells hL).1, Array.getElem?_eq_getElem (by omega)]
    rfl) (by
    intro j hj
    rw [Nat.add_zero]
    exact (mcells hL).2 _) hone
  simp only [Nat.add_zero] at hst
  obtain ⟨m, rfl⟩ : ∃ m, n = m + 1 := ⟨n - 1, by omega⟩
  simp [Builtin.clear_, run_underlying Try.underlying49, hv, hst]
theorem HB.clear {w : World} {b : Nat} {xs : List Hd} (h : HB w b xs) (i : Nat) (vs : List Value) : HB (w.setCells b (i * 7) vs) b (xs.take i) := by
  obtain ⟨cur, h1, h2⟩ := h.blk
  obtain ⟨cur', k1, k2⟩ := blk_setCells b vs (i * 7) w cur _ h1
  refine ⟨⟨cur', k1, by rw [List.length_take, k2]; omega⟩, fun j x hx => ?_⟩
  rw [List.getElem?_take] at hx
  split at hx
  · exact (h.row j x hx).of_cells fun p _ hp => World.cell?_setCells_out b vs _ _ ⟨b, p, none⟩ (fun _ _ => .inl (by show p < i * 7; omega))
  · cases hx
theorem set_take {α : Type} {xs : List α} {i : Nat} {x : α} (hi : i < xs.length) : (xs.set i x).take (i + 1) = xs.take i ++ [x] := by
  rw [List.take_add_one, List.getElem?_set_self hi, List.take_set_of_le (Nat.le_refl _)]
  rfl
/-- In the midst of the deleting: i that are kept, from j on as it was. -/
structure HMix (hs xs : List Hd) (i j : Nat) : Prop where
  len : xs.length = hs.length
  lt : i < j
  hd : xs.take i = (hs.take j).filter (·.has)
  tl : xs.drop j = hs.drop j
theorem HMix.start {hs : List Hd} {i : Nat} {x : Hd} (h1 : hs[i]? = some x) (h2 : x.has = false) (h3 : ∀ y ∈ hs.take i, y.has = true) : HMix hs hs i (i + 1) := by
  refine ⟨rfl, by omega, ?_, rfl⟩
  rw [List.take_add_one, h1, List.filter_append, List.filter_eq_self.2 h3]
  simp [h2]
theorem HMix.get {hs xs : List Hd} {i j : Nat} (h : HMix hs xs i j) {x : Hd} (hx : hs[j]? = some x) : xs[j]? = some x := by
  have : (xs.drop j)[0]? = some x := by rw [h.tl, List.getElem?_drop]; exact hx
  rw [List.getElem?_drop] at this
  exact this
theorem HMix.skip {hs xs : List Hd} {i j : Nat} (h : HMix hs xs i j) {x : Hd} (hx : hs[j]? = some x) (hh : x.has = false) : HMix hs xs i (j + 1) := by
  refine ⟨h.len, by have := h.lt; omega, ?_, ?_⟩
  · rw [h.hd, List.take_add_one, hx, List.filter_append]
    simp [hh]
  · rw [← List.drop_drop, h.tl, List.drop_drop]
theorem HMix.put {hs xs : List Hd} {i j : Nat} (h : HMix hs xs i j) {x : Hd} (hx : hs[j]? = some x) (hh : x.has = true) : HMix hs (xs.set i x) (i + 1) (j + 1) := by
  have hl := h.lt
  obtain ⟨hj, _⟩ := List.getElem?_eq_some_iff.1 hx
  refine ⟨by rw [List.length_set]; exact h.len, by omega, ?_, ?_⟩
  · rw [set_take (by rw [h.len]; omega), h.hd, List.take_add_one, hx, List.filter_append]
    simp [hh]
  · rw [List.drop_set_of_lt (by omega), ← List.drop_drop, h.tl, List.drop_drop]

set_option maxHeartbeats 4000000 in
set_option maxRecDepth 100000 in
theorem HDel_any (b cap : Nat) (hs : List Hd) (w : World) (hH : HB w b hs) (hcap : hs.length ≤ cap) (hn : hs.length ≤ 100000) :
    Calls Try.prog 32 #[.slice (some ⟨b, 0, none⟩) hs.length cap, .func (.func 33) #[] #[]] w fun e w' =>
      e = .returned (.slice (some ⟨b, 0, none⟩) (hs.filter (·.has)).length cap) ∧ HB w' b (hs.filter (·.has)) ∧ Kp w w' (fun i => i = b) := by
  go_enter Try.func32, Try.ntmps32
  go_wp2_with fail
  refine (HIndex_any b cap hs w hH hn).mono ?_
  rintro e w1 ⟨hb1, ⟨rfl, hall⟩ | ⟨i, x, rfl, hxi, hxf, hall⟩⟩
  · have HE : Hid _ := List.filter_eq_self.2 hall
    clear hall
    go_wp2
    go_ret
    rw [HE.out]
    exact ⟨rfl, hH.below hb1, Kp.of_below _ hb1⟩
  · have hM := HMix.start hxi hxf hall
    have hi := (List.getElem?_eq_some_iff.1 hxi).1
    have hH1 := hH.below hb1
    have him : ((i : Int) == -1) = false := by rw [beq_eq_false_iff_ne]; omega
    clear hxi hxf hall
    go_wp2
    go_loopw [5, 6] (fun s5 s6 wr => ∃ i j : Nat, s5 = .int .i64 (i : Int) ∧ s6 = .int .i64 (j : Int) ∧ j ≤ hs.length ∧ Hid (∃ xs, HMix hs xs i j ∧ HB wr b xs) ∧ Kp w wr (fun i => i = b)) (fun _ s6 _ => hs.length - (intOf s6).toNat)
    case atStart => exact ⟨i, i + 1, by go_num, by go_num, by omega, ⟨hs, hM, hH1⟩, Kp.of_below _ hb1⟩
    case round =>
      clear hM hH1 him hi
      obtain ⟨i, j, rfl, rfl, hjl, HM, hK⟩ := hrel
      obtain ⟨xs, hM, hB⟩ := HM.out
      have hij := hM.lt
      have hlen := hM.len
      by_cases hlt : j < hs.length
      · obtain ⟨x, hx⟩ : ∃ x, hs[j]? = some x := ⟨_, List.getElem?_eq_getElem hlt⟩
        obtain ⟨c0, c1, c2, c3, c4, c5, c6⟩ := hB.row j x (hM.get hx)
        have hjz : (j : Int) < (hs.length : Int) := by omega
        have hiz : (i : Int) < (hs.length : Int) := by omega
        have hcon := fun W => del_any x W
        have HX : Hid _ := hx
        have HMM : Hid _ := hM
        have HL : Hid _ := hlen
        have hbb := hB.lt
        have hW1 : Below wr.heap.size wr (wr.alloc (hObj x)) := (Below.refl _ _).alloc (Nat.le_refl _) _
        have hA1 : (wr.alloc (hObj x)).heap[wr.heap.size]? = some (hObj x) := heap_alloc_new wr _
        clear hx hM hlen HM
        go_wp2_with fail
        have hcon' := hcon (wr.alloc (hObj x))
        unfold hObj at hcon'
        refine hcon'.mono ?_
        clear hcon hcon'
        rintro e w2 ⟨rfl, hb2⟩
        have hA2 : w2.heap[wr.heap.size]? = some (hObj x) := (hb2.block _ (by simp)).trans hA1
        have hB2 := hB.below (below2 hW1 hb2)
        have hK2 := hK.trans (Kp.of_below (fun _ => False) (below2 hW1 hb2)) (fun _ h => h.elim)
        clear c0 c1 c2 c3 c4 c5 c6 hb2 hW1 hA1 hB hK
        cases hz : x.has with
        | false =>
          have HM3 : Hid _ := HMM.out.skip HX.out hz
          have HB2 : Hid _ := hB2
          clear hA2 hz hB2
          go_wp2
          go_roundw
          case rel => exact ⟨i, j + 1, rfl, by go_num, by omega, ⟨xs, HM3.out, HB2.out⟩, hK2⟩
          case measure => simp [intOf]; omega
        | true =>
          have HM3 : Hid _ := HMM.out.put HX.out hz
          have HB3 : Hid _ := fun W => hB2.put (w' := W) (x := x) (i := i) (by have := HL.out; omega)
          obtain ⟨q0, q1, q2, q3, q4, q5, q6⟩ := hObj_at hA2
          obtain ⟨u0, u1, u2, u3, u4, u5, u6, k0, k1, k2, k3, k4, k5, k6, f0, f1, f2, f3, f4, f5, f6⟩ := hB2.live (i := i) (by have := HL.out; omega)
          simp only [Nat.zero_add] at q1 q2 q3 q4 q5 q6
          clear hB2 hA2
          rw [hz] at q6
          have HZ : Hid _ := hz
          clear hz
          go_wp2
          go_roundw
          case rel => 
            refine ⟨i + 1, j + 1, by go_num, by go_num, by omega, ⟨xs.set i x, HM3.out, HB3.out _ ?_⟩, ?_⟩
            · rw [HZ.out]
            · exact ((((((hK2.setCell _ (Or.inl rfl)).setCell _ (Or.inl rfl)).setCell _ (Or.inl rfl)).setCell _ (Or.inl rfl)).setCell _ (Or.inl rfl)).setCell _ (Or.inl rfl)).setCell _ (Or.inl rfl)
          case measure => simp [intOf]; omega
      · have hje : j = hs.length := by omega
        subst hje
        have hhd := hM.hd
        rw [List.take_length] at hhd
        obtain ⟨cur, hc1, hc2⟩ := hB.blk
        obtain ⟨vs, hcl⟩ : ∃ vs, ∀ ty, (Builtin.clear_ #[49] ty #[.slice (some ⟨b, i * 7, none⟩) (hs.length - i) (cap - i)]).run Try.prog wr = .ok (.tuple #[]) (wr.setCells b (i * 7) vs) := by
          obtain ⟨vs, h⟩ := clear_heads wr 0 b i (hs.length - i) (cap - i) (by omega) hc1 (by rw [show i + (hs.length - i) = hs.length by omega, ← hlen]; exact hc2)
          exact ⟨vs, fun ty => h⟩
        have HF : Hid _ := hB.clear i vs
        have HH : Hid _ := hhd
        have hkf : Kp w (wr.setCells b (i * 7) vs) (fun i => i = b) := hK.trans (kp_setCells b vs _ _) (fun _ h => Or.inl h)
        have HLI : Hid (i = (hs.filter (·.has)).length) := by
          show i = _
          rw [← hhd, List.length_take]
          omega
        have hic : (i : Int) ≤ (cap : Int) := by omega
        have hil : (i : Int) ≤ (hs.length : Int) := by omega
        clear hM hB hhd hc1 hc2 hlen HM
        go_wp2
        go_ret
        refine ⟨by rw [← HLI.out]; rfl, ?_, hkf⟩
        have := HF.out
        rw [HH.out] at this
        exact this

end Go.Proofs.Ytnpjbdbhjbccbaa

namespace Go.Proofs.Ytnpjbdbhjbccbaa
open Go.RowKit Go.BigFrame Go.Sort
attribute [local go_sem] size_bstr toList_bstr ls_def

/-- The least; of several the first. -/
def minH : Hd → List Hd → Hd
  | m, [] => m
  | m, x :: xs => minH (if ccl x.nx m.nx < 0 then x else m) xs
theorem minH_cons (m x : Hd) (xs : List Hd) : minH m (x :: xs) = minH (if ccl x.nx m.nx < 0 then x else m) xs := rfl
theorem hObj_set {w : World} {b : Nat} {a0 a1 a2 a3 a4 a5 a6 : Value} {x : Hd} (k : w.heap[b]? = some (.cells #[a0, a1, a2, a3, a4, a5, a6] 51 (0, 0))) {w' : World}
    (hw : ((((((w.setCell ⟨b, 0, none⟩ (.func (.func 60) #[] x.cp)).setCell ⟨b, 1, none⟩ (.string (bstr x.nx.row))).setCell ⟨b, 2, none⟩ (.string (bstr x.nx.col))).setCell ⟨b, 3, none⟩ (.int .u64 x.nx.ver)).setCell ⟨b, 4, none⟩ (.bool x.nx.gone)).setCell ⟨b, 5, none⟩ (.string (bstr x.nx.val))).setCell ⟨b, 6, none⟩ (.bool x.has) = w') :
    w'.heap[b]? = some (hObj x) ∧ ∀ i, i ≠ b → w'.heap[i]? = w.heap[i]? := by
  have hb := heap_set_same (o := 6) (heap_set_same (o := 5) (heap_set_same (o := 4) (heap_set_same (o := 3) (heap_set_same (o := 2) (heap_set_same (o := 1) (heap_set_same (o := 0) k (.func (.func 60) #[] x.cp)) (.string (bstr x.nx.row))) (.string (bstr x.nx.col))) (.int .u64 x.nx.ver)) (.bool x.nx.gone)) (.string (bstr x.nx.val))) (.bool x.has)
  rw [hw] at hb
  refine ⟨by rw [hb]; simp [hObj], fun i hi => ?_⟩
  rw [← hw]
  rw [heap_set_other _ hi, heap_set_other _ hi, heap_set_other _ hi, heap_set_other _ hi, heap_set_other _ hi, heap_set_other _ hi, heap_set_other _ hi]
/-- MinFunc under way: r: what it will answer; r + 1: the least up to here. -/
structure HMn (w0 w : World) (r : Nat) (m : Hd) : Prop where
  z : w.heap[r]? = some (.cells #[.nilFunc, .string ⟨#[]⟩, .string ⟨#[]⟩, .int .u64 0, .bool false, .string ⟨#[]⟩, .bool false] 51 (0, 0))
  m : w.heap[r + 1]? = some (hObj m)
  k : Below w0.heap.size w0 w
theorem HMn.below {w0 w w' : World} {r : Nat} {m : Hd} (h : HMn w0 w r m) (hb : Below w.heap.size w w') : HMn w0 w' r m :=
  ⟨(hb.block _ (blk_lt h.z)).trans h.z, (hb.block _ (blk_lt h.m)).trans h.m, below2 h.k hb⟩

set_option maxHeartbeats 4000000 in
set_option maxRecDepth 100000 in
theorem HMin_any (b cap : Nat) (h0 : Hd) (hs : List Hd) (w : World) (hH : HB w b hs) (hh0 : hs[0]? = some h0) (hn : hs.length ≤ 100000) :
    Calls Try.prog 34 #[.slice (some ⟨b, 0, none⟩) hs.length cap, .func (.func 35) #[] #[]] w fun e w' =>
      e = .returned (hV (minH h0 (hs.drop 1))) ∧ Below w.heap.size w w' := by
  have hbl := hH.lt
  obtain ⟨c0, c1, c2, c3, c4, c5, c6⟩ := hH.row 0 h0 hh0
  simp only [Nat.zero_mul, Nat.zero_add] at c0 c1 c2 c3 c4 c5 c6
  have hl0 : 0 < hs.length := (List.getElem?_eq_some_iff.1 hh0).1
  have hn1 : ¬ ((hs.length : Int) < 1) := by omega
  have hM0 : HMn w ((w.alloc (.cells #[.nilFunc, .string ⟨#[]⟩, .string ⟨#[]⟩, .int .u64 0, .bool false, .string ⟨#[]⟩, .bool false] 51)).alloc (.cells #[.func (.func 60) #[] h0.cp, .string (bstr h0.nx.row), .string (bstr h0.nx.col), .int .u64 h0.nx.ver, .bool h0.nx.gone, .string (bstr h0.nx.val), .bool h0.has] 51)) w.heap.size h0 := by
    refine ⟨(heap_alloc_old _ _ (by simp)).trans (heap_alloc_new w _), ?_, ((Below.refl _ _).alloc (Nat.le_refl _) _).alloc (by simp) _⟩
    have := heap_alloc_new (w.alloc (.cells #[.nilFunc, .string ⟨#[]⟩, .string ⟨#[]⟩, .int .u64 0, .bool false, .string ⟨#[]⟩, .bool false] 51)) (hObj h0)
    simpa [hObj] using this
  go_enter Try.func34, Try.ntmps34
  go_wp2
  generalize ((w.alloc (.cells #[.nilFunc, .string ⟨#[]⟩, .string ⟨#[]⟩, .int .u64 0, .bool false, .string ⟨#[]⟩, .bool false] 51)).alloc (.cells #[.func (.func 60) #[] h0.cp, .string (bstr h0.nx.row), .string (bstr h0.nx.col), .int .u64 h0.nx.ver, .bool h0.nx.gone, .string (bstr h0.nx.val), .bool h0.has] 51)) = wz at *
  go_loopw [6] (fun s6 wr => ∃ t : Nat, ∃ m : Hd, s6 = .int .i64 (t : Int) ∧ 1 ≤ t ∧ t ≤ hs.length ∧ Hid (minH m (hs.drop t) = minH h0 (hs.drop 1)) ∧ HMn w wr w.heap.size m) (fun s6 _ => hs.length - (intOf s6).toNat)
  case atStart => exact ⟨1, h0, rfl, by omega, by omega, rfl, hM0⟩
  case round =>
    clear c0 c1 c2 c3 c4 c5 c6 hM0
    obtain ⟨t, m, rfl, ht1, htl, HM, hG⟩ := hrel
    obtain ⟨m0, m1, m2, m3, m4, m5, m6⟩ := hObj_at hG.m
    have hbr : b < wr.heap.size := Nat.lt_of_lt_of_le hbl hG.k.size
    have hbn1 : b ≠ w.heap.size + 1 := by omega
    have hbn2 : w.heap.size + 1 ≠ b := by omega
    simp only [Nat.zero_add] at m1 m2 m3 m4 m5 m6
    by_cases hlt : t < hs.length
    · obtain ⟨x, hx⟩ : ∃ x, hs[t]? = some x := ⟨_, List.getElem?_eq_getElem hlt⟩
      obtain ⟨c0, c1, c2, c3, c4, c5, c6⟩ := (hH.kept (hG.k.block b hbl)).row t x hx
      have hdr : hs.drop t = x :: hs.drop (t + 1) := drop_get hx
      have HD : Hid _ := hdr
      have HX : Hid _ := hx
      have hcon := fun W => hcmp_any x m W
      have HG : Hid _ := hG
      clear hx hdr hG
      generalize hcv : ccl x.nx m.nx = cv at *
      have HCV : Hid _ := hcv
      clear hcv
      go_wp2_with fail
      go_region_held3 (fun w' => w'.cell? ⟨b, t * 7, none⟩ = some (.func (.func 60) #[] x.cp) ∧ w'.cell? ⟨b, t * 7 + 1, none⟩ = some (.string (bstr x.nx.row)) ∧ w'.cell? ⟨b, t * 7 + 2, none⟩ = some (.string (bstr x.nx.col)) ∧ w'.cell? ⟨b, t * 7 + 3, none⟩ = some (.int .u64 x.nx.ver) ∧ w'.cell? ⟨b, t * 7 + 4, none⟩ = some (.bool x.nx.gone) ∧ w'.cell? ⟨b, t * 7 + 5, none⟩ = some (.string (bstr x.nx.val)) ∧ w'.cell? ⟨b, t * 7 + 6, none⟩ = some (.bool x.has) ∧
          w'.cell? ⟨w.heap.size + 1, 0, none⟩ = some (.func (.func 60) #[] m.cp) ∧ w'.cell? ⟨w.heap.size + 1, 1, none⟩ = some (.string (bstr m.nx.row)) ∧ w'.cell? ⟨w.heap.size + 1, 2, none⟩ = some (.string (bstr m.nx.col)) ∧ w'.cell? ⟨w.heap.size + 1, 3, none⟩ = some (.int .u64 m.nx.ver) ∧ w'.cell? ⟨w.heap.size + 1, 4, none⟩ = some (.bool m.nx.gone) ∧ w'.cell? ⟨w.heap.size + 1, 5, none⟩ = some (.string (bstr m.nx.val)) ∧ w'.cell? ⟨w.heap.size + 1, 6, none⟩ = some (.bool m.has))
        (first | with_reducible exact ⟨c0, c1, c2, c3, c4, c5, c6, m0, m1, m2, m3, m4, m5, m6⟩ | with_reducible exact ⟨d0, d1, d2, d3, d4, d5, d6, n0, n1, n2, n3, n4, n5, n6⟩ | go_keep)
        (first | (go_at_call 35; refine (hcon _).mono ?_; rintro e w1 ⟨rfl, hb1⟩; have hb := below2 (Below.refl wr.heap.size wr).drew hb1; have hG1 : Hid _ := HG.out.below hb; obtain ⟨n0, n1, n2, n3, n4, n5, n6⟩ := hObj_at hG1.out.m; obtain ⟨d0, d1, d2, d3, d4, d5, d6⟩ := (hH.kept (hG1.out.k.block b hbl)).row t x HX.out; simp only [Nat.zero_add] at n1 n2 n3 n4 n5 n6))
      by_cases hlv : cv < 0
      · have hlo : minH x (hs.drop (t + 1)) = minH h0 (hs.drop 1) := by
          rw [← HM.out, HD.out, minH_cons, if_pos (by rw [HCV.out]; exact hlv)]
        have HLO : Hid _ := hlo
        have hset := fun W => hObj_set (x := x) (w' := W) hG1.out.m
        have HS : Hid _ := hset
        have f0 := (mcells hG1.out.m).2
        have f00 := f0 0
        have f01 := f0 1
        have f02 := f0 2
        have f03 := f0 3
        have f04 := f0 4
        have f05 := f0 5
        have f06 := f0 6
        clear hset hlo hb1 hb f0 hcon
        go_wp2
        go_roundw
        case rel =>
          refine ⟨t + 1, x, by go_num, by omega, by omega, HLO.out, ?_⟩
          obtain ⟨k1, k2⟩ := HS.out _ rfl
          refine ⟨(k2 _ (by omega)).trans hG1.out.z, k1, ?_⟩
          have hn0 : w.heap.size ≤ w.heap.size + 1 := by omega
          exact ((((((hG1.out.k.setCell (p := ⟨w.heap.size + 1, 0, none⟩) hn0 _).setCell (p := ⟨w.heap.size + 1, 1, none⟩) hn0 _).setCell (p := ⟨w.heap.size + 1, 2, none⟩) hn0 _).setCell (p := ⟨w.heap.size + 1, 3, none⟩) hn0 _).setCell (p := ⟨w.heap.size + 1, 4, none⟩) hn0 _).setCell (p := ⟨w.heap.size + 1, 5, none⟩) hn0 _).setCell (p := ⟨w.heap.size + 1, 6, none⟩) hn0 _
        case measure => simp [intOf]; omega
      · have hlo : minH m (hs.drop (t + 1)) = minH h0 (hs.drop 1) := by
          rw [← HM.out, HD.out, minH_cons, if_neg (by rw [HCV.out]; exact hlv)]
        have HLO : Hid _ := hlo
        clear hlo hb1 hb hcon
        go_wp2
        go_roundw
        case rel => exact ⟨t + 1, m, by go_num, by omega, by omega, HLO.out, hG1.out⟩
        case measure => simp [intOf]; omega
    · have hte : t = hs.length := by omega
      have hmm : m = minH h0 (hs.drop 1) := by
        have := HM.out
        rw [hte, List.drop_length] at this
        exact this
      have HMM : Hid _ := hmm
      have hzc := (mcells hG.z).1
      have hzf := (mcells hG.z).2
      have z0 := hzc 0
      have z1 := hzc 1
      have z2 := hzc 2
      have z3 := hzc 3
      have z4 := hzc 4
      have z5 := hzc 5
      have z6 := hzc 6
      have f0 := hzf 0
      have f1 := hzf 1
      have f2 := hzf 2
      have f3 := hzf 3
      have f4 := hzf 4
      have f5 := hzf 5
      have f6 := hzf 6
      have HG : Hid _ := hG
      clear hmm hG hzc hzf HM
      simp only [List.getElem?_toArray, List.getElem?_cons_zero, List.getElem?_cons_succ] at z0 z1 z2 z3 z4 z5 z6
      go_wp2
      generalize hW : ((((((wr.setCell ⟨w.heap.size, 0, none⟩ (.func (.func 60) #[] m.cp)).setCell ⟨w.heap.size, 1, none⟩ (.string (bstr m.nx.row))).setCell ⟨w.heap.size, 2, none⟩ (.string (bstr m.nx.col))).setCell ⟨w.heap.size, 3, none⟩ (.int .u64 m.nx.ver)).setCell ⟨w.heap.size, 4, none⟩ (.bool m.nx.gone)).setCell ⟨w.heap.size, 5, none⟩ (.string (bstr m.nx.val))).setCell ⟨w.heap.size, 6, none⟩ (.bool m.has) = W
      obtain ⟨k1, k2⟩ := hObj_set (w' := W) HG.out.z hW
      obtain ⟨r0, r1, r2, r3, r4, r5, r6⟩ := hObj_at k1
      simp only [Nat.zero_add] at r1 r2 r3 r4 r5 r6
      refine bodyPost_ret (v := hV m) (by simp [results, Try.results34, go_sem, r0, r1, r2, r3, r4, r5, r6]) rfl ⟨by rw [HMM.out], ?_⟩
      have hn0 : w.heap.size ≤ w.heap.size := Nat.le_refl _
      rw [← hW]
      exact ((((((HG.out.k.setCell (p := ⟨w.heap.size, 0, none⟩) hn0 _).setCell (p := ⟨w.heap.size, 1, none⟩) hn0 _).setCell (p := ⟨w.heap.size, 2, none⟩) hn0 _).setCell (p := ⟨w.heap.size, 3, none⟩) hn0 _).setCell (p := ⟨w.heap.size, 4, none⟩) hn0 _).setCell (p := ⟨w.heap.size, 5, none⟩) hn0 _).setCell (p := ⟨w.heap.size, 6, none⟩) hn0 _

end Go.Proofs.Ytnpjbdbhjbccbaa

