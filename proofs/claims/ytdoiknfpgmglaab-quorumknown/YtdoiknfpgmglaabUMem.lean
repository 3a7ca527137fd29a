/-
  quorum: rows of numbers and an array of bools in memory.
-/
import Derived.Test.YtdoiknfpgmglaabUMath
import Derived.WalkMore
import Derived.Laws.AppendOwn
import Derived.Laws.AppendOwnNone
import Derived.Deep.RegionHeld3
import Derived.ChangeKeysEq
namespace Go.Proofs.Ytdoiknfpgmglaab
open Go.RowKit Go.BigFrame

theorem info_parts {x : Option TypeInfo} {z : Value} {a b : Nat} (h : x.map (fun i => (i.zero, i.size, i.bytes)) = some (some z, a, b)) : ∃ i, x = some i ∧ i.zero = some z ∧ i.size = a ∧ i.bytes = b := by
  cases x with
  | none => simp at h
  | some i => simp at h; exact ⟨i, rfl, h.1, h.2.1, h.2.2⟩
theorem own_below {w w' : World} {B e size n : Nat} {v : Value} {xs : List Value} (h : w.ownsRow B e size v n xs) (hb : Below w.heap.size w w') : w'.ownsRow B e size v n xs := by
  rcases h.2 with h0 | ⟨g, cap, cur, hv, hbg, hg, hnc, hcm, hcs, htake⟩
  · exact ⟨h.1, .inl h0⟩
  · have hlt : g < w.heap.size := by
      by_cases hl : g < w.heap.size
      · exact hl
      · rw [Array.getElem?_eq_none (Nat.le_of_not_lt hl)] at hg
        exact absurd hg (by simp)
    exact ⟨h.1, .inr ⟨g, cap, cur, hv, hbg, (hb.block g hlt).trans hg, hnc, hcm, hcs, htake⟩⟩
theorem own_succ {w : World} {B : Nat} {e : TypeId} {sz : Nat} {v : Value} {n : Nat} {xs : List Value} (h : w.ownsRow B e sz v (n + 1) xs) : ∃ q cap, v = .slice q (n + 1) cap := by
  rcases h.2 with ⟨_, e0⟩ | ⟨g, cap, cur, e, _⟩
  · omega
  · exact ⟨_, _, e⟩
theorem own_slice {w : World} {B : Nat} {e : TypeId} {sz : Nat} {v : Value} {n : Nat} {xs : List Value} (h : w.ownsRow B e sz v n xs) : ∃ q cap, v = .slice q n cap := by
  rcases h.2 with ⟨e, e0⟩ | ⟨g, cap, cur, e, _⟩
  · exact ⟨none, 0, by rw [e, e0]⟩
  · exact ⟨_, _, e⟩
theorem mcells {w : World} {g : Nat} {cur : Array Value} {t : TypeId} (h : w.heap[g]? = some (.cells cur t (0, 0))) : (∀ o, w.cell? ⟨g, o, none⟩ = cur[o]?) ∧ ∀ o, w.frozen? ⟨g, o, none⟩ = false :=
  ⟨fun o => by simp [World.cell?, h], fun o => by simp [World.frozen?, h]⟩
theorem cell_below {w w' : World} {a : Addr} {v : Value} (hb : Below w.heap.size w w') (h : w.cell? a = some v) : w'.cell? a = some v := by rw [hb.cell (block_lt_of_cell h)]; exact h
theorem bel_alloc {w w' : World} {B : Nat} (h : Below B w w') (hB : B ≤ w.heap.size) (o : Obj) : Below B w (w'.alloc o) := h.alloc (Nat.le_trans hB h.size) o
theorem heap_set_same {w : World} {b o : Nat} {cs : Array Value} {t : TypeId} {fz : Nat × Nat} (h : w.heap[b]? = some (.cells cs t fz)) (v : Value) : (w.setCell ⟨b, o, none⟩ v).heap[b]? = some (.cells (cs.setIfInBounds o v) t fz) := by
  show (w.heap.modify b _)[b]? = _
  rw [Array.getElem?_modify, if_pos rfl, h]
  rfl
theorem heap_set_other {w : World} {b o i : Nat} (v : Value) (h : i ≠ b) : (w.setCell ⟨b, o, none⟩ v).heap[i]? = w.heap[i]? := Below.heap_setCell w ⟨b, o, none⟩ v i h
theorem blk_lt {w : World} {b : Nat} {o : Obj} (h : w.heap[b]? = some o) : b < w.heap.size := (Array.getElem?_eq_some_iff.1 h).1
theorem below2 {w a b : World} (h : Below w.heap.size w a) (k : Below a.heap.size a b) : Below w.heap.size w b := h.trans (k.mono h.size)

/-- Numbers that lie in a block; as a slice. -/
def IRow (w : World) (b off : Nat) (l : List Int) : Prop := ∀ i (h : i < l.length), w.cell? ⟨b, off + i, none⟩ = some (.int .i64 l[i])
def IArg (w : World) (q : Option Addr) (l : List Int) : Prop := 0 < l.length → ∃ b off, q = some ⟨b, off, none⟩ ∧ IRow w b off l
theorem IArg.below {w w' : World} {q : Option Addr} {l : List Int} (h : IArg w q l) (hb : Below w.heap.size w w') : IArg w' q l := fun h0 => by
  obtain ⟨b, off, hq, hr⟩ := h h0
  exact ⟨b, off, hq, fun i hi => cell_below hb (hr i hi)⟩
theorem IArg.nil (w : World) (q : Option Addr) : IArg w q [] := fun h0 => by simp at h0
def URow (w : World) (b off : Nat) (l : List Nat) : Prop := ∀ i (h : i < l.length), w.cell? ⟨b, off + i, none⟩ = some (.int .u64 (l[i] : Int))
def UArg (w : World) (q : Option Addr) (l : List Nat) : Prop := 0 < l.length → ∃ b off, q = some ⟨b, off, none⟩ ∧ URow w b off l
theorem UArg.below {w w' : World} {q : Option Addr} {l : List Nat} (h : UArg w q l) (hb : Below w.heap.size w w') : UArg w' q l := fun h0 => by
  obtain ⟨b, off, hq, hr⟩ := h h0
  exact ⟨b, off, hq, fun i hi => cell_below hb (hr i hi)⟩
def icells (l : List Int) : List Value := l.map (Value.int .i64)
theorem icells_append (a b : List Int) : icells (a ++ b) = icells a ++ icells b := by simp [icells]
theorem icells_length (l : List Int) : (icells l).length = l.length := by simp [icells]
def ucells (l : List Nat) : List Value := l.map fun n : Nat => Value.int .u64 (n : Int)
theorem ucells_append (a b : List Nat) : ucells (a ++ b) = ucells a ++ ucells b := by simp [ucells]
theorem own_iarg {w : World} {B n : Nat} {v : Value} {l : List Int} (h : w.ownsRow B 3 1 v n (icells l)) : n = l.length ∧ ∃ q cap, v = .slice q l.length cap ∧ IArg w q l := by
  have hn : n = l.length := by have := h.1; rw [icells_length] at this; omega
  refine ⟨hn, ?_⟩
  subst hn
  rcases h.2 with ⟨rfl, h0⟩ | ⟨g, cap, cur, rfl, hbg, hg, hnc, hcm, hcs, htake⟩
  · exact ⟨none, 0, by rw [h0], fun h1 => by omega⟩
  · refine ⟨some ⟨g, 0, none⟩, cap, rfl, fun h1 => ⟨g, 0, rfl, fun i hi => ?_⟩⟩
    have h2 := h.cells (g := g) rfl i (.int .i64 l[i]) (by simp [icells, hi])
    rw [Addr.add_lit, Nat.zero_add] at h2
    rw [Nat.zero_add]
    exact h2
theorem own_uarg {w : World} {B n : Nat} {v : Value} {l : List Nat} (h : w.ownsRow B 29 1 v n (ucells l)) : n = l.length ∧ ∃ q cap, v = .slice q l.length cap ∧ UArg w q l := by
  have hn : n = l.length := by have := h.1; simp [ucells] at this; omega
  refine ⟨hn, ?_⟩
  subst hn
  rcases h.2 with ⟨rfl, h0⟩ | ⟨g, cap, cur, rfl, hbg, hg, hnc, hcm, hcs, htake⟩
  · exact ⟨none, 0, by rw [h0], fun h1 => by omega⟩
  · refine ⟨some ⟨g, 0, none⟩, cap, rfl, fun h1 => ⟨g, 0, rfl, fun i hi => ?_⟩⟩
    have h2 := h.cells (g := g) rfl i (.int .u64 (l[i] : Int)) (by simp [ucells, hi])
    rw [Addr.add_lit, Nat.zero_add] at h2
    rw [Nat.zero_add]
    exact h2
theorem Try.infoInt : (Try.prog.info? 3).map (fun i => (i.zero, i.size, i.bytes)) = some (some (.int .i64 0), 1, 8) := by kernel_rfl
theorem Try.infoU64 : (Try.prog.info? 29).map (fun i => (i.zero, i.size, i.bytes)) = some (some (.int .u64 0), 1, 8) := by kernel_rfl

/-- Which nodes are there: as a value; as a block. -/
def bt (m i : Nat) : Bool := m.testBit i
def ndV (m : Nat) : Value := .agg #[.bool (bt m 0), .bool (bt m 1), .bool (bt m 2), .bool (bt m 3), .bool (bt m 4)]
def ndC (m : Nat) : Array Value := #[.bool (bt m 0), .bool (bt m 1), .bool (bt m 2), .bool (bt m 3), .bool (bt m 4)]
def NdB (w : World) (b m : Nat) : Prop := w.heap[b]? = some (.cells (ndC m) 37 (0, 0))
theorem NdB.frz {w : World} {b m : Nat} (h : NdB w b m) (o : Nat) : w.frozen? ⟨b, o, none⟩ = false := (mcells h).2 o
theorem NdB.c {w : World} {b m : Nat} (h : NdB w b m) : w.cell? ⟨b, 0, none⟩ = some (.bool (bt m 0)) ∧ w.cell? ⟨b, 1, none⟩ = some (.bool (bt m 1)) ∧ w.cell? ⟨b, 2, none⟩ = some (.bool (bt m 2)) ∧ w.cell? ⟨b, 3, none⟩ = some (.bool (bt m 3)) ∧ w.cell? ⟨b, 4, none⟩ = some (.bool (bt m 4)) :=
  ⟨(mcells h).1 0, (mcells h).1 1, (mcells h).1 2, (mcells h).1 3, (mcells h).1 4⟩
theorem NdB.at_ {w : World} {b m i : Nat} (h : NdB w b m) (hi : i < 5) : w.cell? ⟨b, i, none⟩ = some (.bool (bt m i)) := by
  obtain ⟨a, b, c, d, e⟩ := h.c
  match i, hi with
  | 0, _ => exact a
  | 1, _ => exact b
  | 2, _ => exact c
  | 3, _ => exact d
  | 4, _ => exact e
theorem NdB.keep {w w' : World} {b m : Nat} (h : NdB w b m) (e : w'.heap[b]? = w.heap[b]?) : NdB w' b m := e.trans h
theorem NdB.below {w w' : World} {b m : Nat} (h : NdB w b m) (hb : Below w.heap.size w w') : NdB w' b m := h.keep (hb.block b (blk_lt h))
theorem NdB.put {w : World} {b m m' i : Nat} {v : Bool} (h : NdB w b m) (hi : i < 5) (hv : bt m' i = v) (ho : ∀ j, j < 5 → j ≠ i → bt m' j = bt m j) : NdB (w.setCell ⟨b, i, none⟩ (.bool v)) b m' := by
  have h1 := heap_set_same h (o := i) (.bool v)
  unfold NdB
  rw [h1]
  subst hv
  congr 2
  unfold ndC
  match i, hi with
  | 0, _ => simp [ho 1 (by decide) (by decide), ho 2 (by decide) (by decide), ho 3 (by decide) (by decide), ho 4 (by decide) (by decide)]
  | 1, _ => simp [ho 0 (by decide) (by decide), ho 2 (by decide) (by decide), ho 3 (by decide) (by decide), ho 4 (by decide) (by decide)]
  | 2, _ => simp [ho 0 (by decide) (by decide), ho 1 (by decide) (by decide), ho 3 (by decide) (by decide), ho 4 (by decide) (by decide)]
  | 3, _ => simp [ho 0 (by decide) (by decide), ho 1 (by decide) (by decide), ho 2 (by decide) (by decide), ho 4 (by decide) (by decide)]
  | 4, _ => simp [ho 0 (by decide) (by decide), ho 1 (by decide) (by decide), ho 2 (by decide) (by decide), ho 3 (by decide) (by decide)]
theorem NdB.set {w : World} {b m i : Nat} (h : NdB w b m) (hi : i < 5) : NdB (w.setCell ⟨b, i, none⟩ (.bool true)) b (setB m (i : Int)) :=
  h.put hi (by unfold bt; rw [setB_bit _ _ _ hi]; simp) (fun j hj hne => by
    unfold bt
    rw [setB_bit _ _ _ hj]
    have : ¬ (j : Int) = (i : Int) := by omega
    simp [this])
theorem NdB.five {w : World} {b m : Nat} (h : NdB w b m) (m' : Nat) : NdB (((((w.setCell ⟨b, 0, none⟩ (.bool (bt m' 0))).setCell ⟨b, 1, none⟩ (.bool (bt m' 1))).setCell ⟨b, 2, none⟩ (.bool (bt m' 2))).setCell ⟨b, 3, none⟩ (.bool (bt m' 3))).setCell ⟨b, 4, none⟩ (.bool (bt m' 4))) b m' := by
  have h1 := heap_set_same (heap_set_same (heap_set_same (heap_set_same (heap_set_same h (o := 0) (.bool (bt m' 0))) (o := 1) (.bool (bt m' 1))) (o := 2) (.bool (bt m' 2))) (o := 3) (.bool (bt m' 3))) (o := 4) (.bool (bt m' 4))
  unfold NdB
  rw [h1]
  rfl
theorem NdB.alloc {w : World} {b m : Nat} (h : NdB w b m) (o : Obj) : NdB (w.alloc o) b m := h.below ((Below.refl _ _).alloc (Nat.le_refl _) o)
theorem NdB.other {w : World} {b m b' o : Nat} {v : Value} (h : NdB w b m) (hb : b ≠ b') : NdB (w.setCell ⟨b', o, none⟩ v) b m := h.keep (heap_set_other v hb)
theorem bel_set {B : Nat} {w w' : World} (h : Below B w w') {b o : Nat} {v : Value} (hb : B ≤ b) : Below B w (w'.setCell ⟨b, o, none⟩ v) := by
  refine h.trans ⟨rfl, rfl, rfl, ?_, fun i hi => heap_set_other v (by omega)⟩
  show _ ≤ (w'.heap.modify _ _).size
  rw [Array.size_modify]
  exact Nat.le_refl _
theorem bel_five {B : Nat} {w w' : World} (h : Below B w w') {b : Nat} {v0 v1 v2 v3 v4 : Value} (hb : B ≤ b) : Below B w (((((w'.setCell ⟨b, 0, none⟩ v0).setCell ⟨b, 1, none⟩ v1).setCell ⟨b, 2, none⟩ v2).setCell ⟨b, 3, none⟩ v3).setCell ⟨b, 4, none⟩ v4) := bel_set (bel_set (bel_set (bel_set (bel_set h hb) hb) hb) hb) hb
theorem ures1 {fn : Func} {p : Tmp} {ty : TypeId} (h : fn.results = #[.cell p ty]) (tmps : Array Value) (P : Program) (w : World) :
    (results fn tmps).run P w = ((asAddr (tmps.getD p undef)).run P w).andThen fun a w₁ => (loadVar ty a).run P w₁ := by
  simp only [results, h]
  simp [Sem.run_bind, Result.andThen]
theorem ret_nd {fn : Func} {p : Tmp} (h : fn.results = #[.cell p 37]) {R : Ending → World → Prop} {a : Act} {w : World} {b m : Nat} (hp : a.tmps.getD p undef = .pointer (some ⟨b, 0, none⟩)) (hat : NdB w b m) (hd : a.defers = []) (hR : R (.returned (ndV m)) w) :
    bodyPost Try.prog fn R .ret a w := by
  obtain ⟨q0, q1, q2, q3, q4⟩ := hat.c
  exact bodyPost_ret (v := ndV m) (by rw [ures1 h, hp]; simp [go_sem, q0, q1, q2, q3, q4, ndV]) hd hR

/-- Lists that lie beside one another. -/
abbrev LL := Option Addr × Nat × List Int
def LLA (w : World) (b : Nat) (ls : List LL) : Prop := ∀ i (h : i < ls.length), w.cell? ⟨b, i, none⟩ = some (.slice ls[i].1 ls[i].2.2.length ls[i].2.1) ∧ IArg w ls[i].1 ls[i].2.2 ∧ ls[i].2.2.length ≤ 9223372036854775807
theorem LLA.below {w w' : World} {b : Nat} {ls : List LL} (h : LLA w b ls) (hb : Below w.heap.size w w') : LLA w' b ls := fun i hi => ⟨cell_below hb (h i hi).1, (h i hi).2.1.below hb, (h i hi).2.2⟩
def mkA (m : Nat) (ls : List LL) : Nat := ls.foldl (fun m l => mk m l.2.2) m
theorem mkA_take (m : Nat) (ls : List LL) (i : Nat) (h : i < ls.length) : mkA m (ls.take (i + 1)) = mk (mkA m (ls.take i)) ls[i].2.2 := by
  unfold mkA
  rw [List.take_add_one, List.getElem?_eq_getElem h, List.foldl_append]
  rfl
theorem mk_take (m : Nat) (l : List Int) (i : Nat) (h : i < l.length) : mk m (l.take (i + 1)) = setB (mk m (l.take i)) l[i] := by
  unfold mk
  rw [List.take_add_one, List.getElem?_eq_getElem h, List.foldl_append]
  rfl
theorem setB_no {m : Nat} {x : Int} (h : ¬ (0 ≤ x ∧ x < 5)) : setB m x = m := if_neg h

end Go.Proofs.Ytdoiknfpgmglaab
