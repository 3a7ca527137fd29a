/-
  merge: what a call keeps; a row that tells cells, asked for the n-th time; a cell that shares nothing with another one.
-/
import Derived.Test.YtlkikfkchgmmhaaCFresh
namespace Go.Proofs.Ytlkikfkchgmmhaa
open Go.RowKit Go.BigFrame Go.Sort
attribute [local go_sem] size_bstr toList_bstr ls_def

/-- What a call leaves as it was: all but the blocks of which S speaks, and new ones. -/
structure Kp (w w' : World) (S : Nat → Prop) : Prop where
  os : w'.os = w.os
  tape : w'.tape = w.tape
  output : w'.output = w.output
  size : w.heap.size ≤ w'.heap.size
  block : ∀ i, i < w.heap.size → ¬ S i → w'.heap[i]? = w.heap[i]?
theorem Kp.refl (w : World) (S : Nat → Prop) : Kp w w S := ⟨rfl, rfl, rfl, Nat.le_refl _, fun _ _ _ => rfl⟩
theorem Kp.trans {a b c : World} {S S' : Nat → Prop} (h : Kp a b S) (k : Kp b c S') (hS : ∀ i, S' i → S i ∨ a.heap.size ≤ i) : Kp a c S :=
  ⟨k.os.trans h.os, k.tape.trans h.tape, k.output.trans h.output, Nat.le_trans h.size k.size, fun i hi hn => (k.block i (Nat.lt_of_lt_of_le hi h.size) (fun hs => by
    rcases hS i hs with a | a
    · exact hn a
    · omega)).trans (h.block i hi hn)⟩
theorem Kp.mono {a b : World} {S S' : Nat → Prop} (h : Kp a b S) (hS : ∀ i, S i → S' i ∨ a.heap.size ≤ i) : Kp a b S' :=
  ⟨h.os, h.tape, h.output, h.size, fun i hi hn => h.block i hi (fun hs => by
    rcases hS i hs with a | a
    · exact hn a
    · omega)⟩
theorem Kp.drew {w w' : World} {S : Nat → Prop} (h : Kp w w' S) : Kp w w'.drew S := ⟨h.os, h.tape, h.output, h.size, h.block⟩
theorem Kp.of_below {w w' : World} (S : Nat → Prop) (h : Below w.heap.size w w') : Kp w w' S := ⟨h.os, h.tape, h.output, h.size, fun i hi _ => h.block i hi⟩
theorem Kp.below {w w' : World} {S : Nat → Prop} {B : Nat} (h : Kp w w' S) (hB : B ≤ w.heap.size) (hS : ∀ i, S i → B ≤ i) : Below B w w' :=
  ⟨h.os, h.tape, h.output, h.size, fun k hk => h.block k (by omega) (fun hs => by have := hS k hs; omega)⟩
theorem Kp.alloc {w w' : World} {S : Nat → Prop} (h : Kp w w' S) (o : Obj) : Kp w (w'.alloc o) S :=
  h.trans (Kp.of_below (fun _ => False) ((Below.refl _ _).alloc (Nat.le_refl _) o)) (fun _ h => h.elim)
theorem Kp.of_grown {w w' : World} {r : Option Nat} {S : Nat → Prop} (h : w.grownBy w' r) (hk : ∀ k, r = some k → S k) : Kp w w' S :=
  ⟨h.os, h.tape, h.output, h.size, fun i hi hn => h.block i hi (fun e => hn (hk i e.symm))⟩
theorem heap_set_same {w : World} {b o : Nat} {cs : Array Value} {t : TypeId} {fz : Nat × Nat} (h : w.heap[b]? = some (.cells cs t fz)) (v : Value) : (w.setCell ⟨b, o, none⟩ v).heap[b]? = some (.cells (cs.setIfInBounds o v) t fz) := by
  show (w.heap.modify b _)[b]? = _
  rw [Array.getElem?_modify, if_pos rfl, h]
  rfl
theorem heap_set_other {w : World} {b o i : Nat} (v : Value) (h : i ≠ b) : (w.setCell ⟨b, o, none⟩ v).heap[i]? = w.heap[i]? := Below.heap_setCell w ⟨b, o, none⟩ v i h
theorem Kp.setCell {w w' : World} {S : Nat → Prop} (h : Kp w w' S) {b o : Nat} (v : Value) (hb : S b ∨ w.heap.size ≤ b) : Kp w (w'.setCell ⟨b, o, none⟩ v) S := by
  refine h.trans (S' := fun i => i = b) ⟨rfl, rfl, rfl, ?_, fun i _ hi => heap_set_other v hi⟩ (fun i e => by subst e; exact hb)
  show _ ≤ (w'.heap.modify _ _).size
  rw [Array.size_modify]
  exact Nat.le_refl _
theorem blk_lt {w : World} {b : Nat} {o : Obj} (h : w.heap[b]? = some o) : b < w.heap.size := (Array.getElem?_eq_some_iff.1 h).1
theorem mcells {w : World} {g : Nat} {cur : Array Value} {t : TypeId} (h : w.heap[g]? = some (.cells cur t (0, 0))) : (∀ o, w.cell? ⟨g, o, none⟩ = cur[o]?) ∧ ∀ o, w.frozen? ⟨g, o, none⟩ = false :=
  ⟨fun o => by simp [World.cell?, h], fun o => by simp [World.frozen?, h]⟩
theorem CRow.blk {w w' : World} {g off : Nat} {B : List Cl} (h : CRow w g off B) (e : w'.heap[g]? = w.heap[g]?) : CRow w' g off B := h.same fun _ => World.cell?_of_block e
theorem CRow.get {w : World} {g off i : Nat} {B : List Cl} {c : Cl} (h : CRow w g off B) (hc : B[i]? = some c) : At5 w g (off + i * 5) c := by
  obtain ⟨hi, rfl⟩ := List.getElem?_eq_some_iff.1 hc
  exact h i hi
abbrev zC : Cl := ⟨[], [], 0, false, []⟩

theorem res_cell2 {fn : Func} {p u : Tmp} {ty : TypeId} (h : fn.results = #[.cell p ty, .tmp u]) (tmps : Array Value) (P : Program) (w : World) :
    (results fn tmps).run P w = ((asAddr (tmps.getD p undef)).run P w).andThen fun a w₁ => ((loadVar ty a).run P w₁).andThen fun x w₂ => .ok (.tuple #[x, tmps.getD u undef]) w₂ := by
  simp only [results, h]
  simp [Sem.run_bind, Result.andThen]
set_option maxHeartbeats 1000000 in
/-- A cell, and whether it is one, answered. -/
theorem ret_cell {fn : Func} {p u : Tmp} (h : fn.results = #[.cell p 38, .tmp u]) {R : Ending → World → Prop} {a : Act} {w : World} {b : Nat} {c : Cl} {v : Value} (hp : a.tmps.getD p undef = .pointer (some ⟨b, 0, none⟩)) (hu : a.tmps.getD u undef = v) (hat : At5 w b 0 c) (hd : a.defers = []) (hR : R (.returned (.tuple #[clV c, v])) w) :
    bodyPost Try.prog fn R .ret a w := by
  obtain ⟨q0, q1, q2, q3, q4⟩ := hat
  rw [Nat.zero_add] at q1 q2 q3 q4
  exact bodyPost_ret (v := .tuple #[clV c, v]) (by rw [res_cell2 h, hp, hu]; simp [go_sem, q0, q1, q2, q3, q4]) hd hR
/-- A cell that was laid in a new block. -/
theorem At5.new (w : World) (c : Cl) (t : TypeId) {b : Nat} (hb : b = w.heap.size) : At5 (w.alloc (.cells #[.string (bstr c.row), .string (bstr c.col), .int .u64 c.ver, .bool c.gone, .string (bstr c.val)] t)) b 0 c := by
  subst hb
  have h := (mcells (heap_alloc_new w (.cells #[.string (bstr c.row), .string (bstr c.col), .int .u64 c.ver, .bool c.gone, .string (bstr c.val)] t))).1
  exact ⟨h 0, h 1, h 2, h 3, h 4⟩
theorem At5.alloc {w : World} {b o : Nat} {c : Cl} (h : At5 w b o c) (x : Obj) : At5 (w.alloc x) b o c := h.step ((Below.refl _ _).alloc (Nat.le_refl _) _) h.lt

/-- What a row answers that is asked for the n-th time (from 0 on). -/
def ansV (cs : List Cl) (n : Nat) : Value := .tuple #[clV ((cs[n]?).getD zC), .bool (decide (n < cs.length))]
theorem ansV_yes {cs : List Cl} {n : Nat} {c : Cl} (h : cs[n]? = some c) : ansV cs n = .tuple #[clV c, .bool true] := by
  have : n < cs.length := (List.getElem?_eq_some_iff.1 h).1
  unfold ansV
  rw [h, decide_eq_true this]
  rfl
theorem ansV_no {cs : List Cl} {n : Nat} (h : cs.length ≤ n) : ansV cs n = .tuple #[clV zC, .bool false] := by
  have h2 : ¬ n < cs.length := by omega
  unfold ansV
  rw [List.getElem?_eq_none h, decide_eq_false h2]
  rfl
/-- A function (g, with what it captured) that tells the cells cs, whatever is done to blocks that are none of F's: J n: it was asked n times. -/
structure Tlr (g : Nat) (caps : Array Value) (F : Nat → Prop) (cs : List Cl) (J : Nat → World → Prop) : Prop where
  eg : ∀ args w, (callFunc g args).run Try.prog w = .ok (.enter g args) w
  fits : ∀ c ∈ cs, Fits c
  lt : ∀ n w, J n w → ∀ i, F i → i < w.heap.size
  kept : ∀ n w w', J n w → (∀ i, F i → w'.heap[i]? = w.heap[i]?) → J n w'
  step : ∀ n w, J n w → Calls Try.prog g caps w fun e w' => e = .returned (ansV cs n) ∧ J (n + 1) w' ∧ Kp w w' F
theorem Tlr.below {g : Nat} {caps : Array Value} {F : Nat → Prop} {cs : List Cl} {J : Nat → World → Prop} (h : Tlr g caps F cs J) {n : Nat} {w w' : World} (hJ : J n w) (hb : Below w.heap.size w w') : J n w' :=
  h.kept n w w' hJ fun i hi => hb.block i (h.lt n w hJ i hi)
theorem Tlr.kp {g : Nat} {caps : Array Value} {F : Nat → Prop} {cs : List Cl} {J : Nat → World → Prop} (h : Tlr g caps F cs J) {n : Nat} {w w' : World} {S : Nat → Prop} (hJ : J n w) (hb : Kp w w' S) (hS : ∀ i, S i → ¬ F i) : J n w' :=
  h.kept n w w' hJ fun i hi => hb.block i (h.lt n w hJ i hi) (fun hs => hS i hs hi)

end Go.Proofs.Ytlkikfkchgmmhaa
