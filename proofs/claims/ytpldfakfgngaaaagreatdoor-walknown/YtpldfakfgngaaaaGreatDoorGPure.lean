/-
  A row of one-cell values that lies in a part of a block: what stands there; one value appended; its last one given up, its first one given up.
  A log's files among the files of a disk, as lists: their numbers, in order; what becomes of these when files are put and taken out.
  A log in memory: its block, the two boxes of its closure, the row of its files, the files with the rows of their records; beside it its disk.
  A number as a file's digits (strconv.FormatUint, strings.Repeat), and a file's digits as a number (strconv.ParseUint).
  What a log's small functions answer: none, First, last, next, Next; isNone, removeIfThere, and a file written anew.
  A file that is written anew: the closure's contract; the closure made.
-/
import Derived.Test.YtpldfakfgngaaaaGreatDoorDFn
import Derived.ArgAppend
import Derived.Deep.AppendLies
import Derived.Test.YtpldfakfgngaaaaGreatDoorGDoc
import Derived.Test.YtpldfakfgngaaaaGreatDoorWDig
import Derived.Test.YtpldfakfgngaaaaGreatDoorGSeal
import Derived.Test.YtpldfakfgngaaaaGreatDoorShelf
import Derived.Lib.AppendIntMem
import Derived.Lib.ParseIntBMem
namespace Go.Proofs.YtpldfakfgngaaaaGreatDoor
open Go.RowKit

/-- The values xs stand where v says. -/
def Rw (w : World) (e : TypeId) (v : Value) (xs : List Value) : Prop :=
  (v = .slice none 0 0 ∧ xs = []) ∨ ∃ g off cap cur, v = .slice (some ⟨g, off, none⟩) xs.length cap ∧ w.heap[g]? = some (.cells cur e (0, 0)) ∧ xs.length ≤ cap ∧ off + cap ≤ cur.size ∧ ∀ i (h : i < xs.length), cur[off + i]? = some xs[i]
theorem Rw.len {w : World} {e : TypeId} {v : Value} {xs : List Value} (h : Rw w e v xs) : ∃ q cap, v = .slice q xs.length cap := by
  rcases h with ⟨rfl, rfl⟩ | ⟨g, off, cap, cur, rfl, _⟩
  · exact ⟨none, 0, rfl⟩
  · exact ⟨_, _, rfl⟩
theorem Rw.kept {w w' : World} {e : TypeId} {v : Value} {xs : List Value} (h : Rw w e v xs) (hb : ∀ i, v.ownBlock = some i → w'.heap[i]? = w.heap[i]?) : Rw w' e v xs := by
  rcases h with h | ⟨g, off, cap, cur, rfl, hg, h1, h2, h3⟩
  · exact Or.inl h
  · exact Or.inr ⟨g, off, cap, cur, rfl, (hb g rfl).trans hg, h1, h2, h3⟩
theorem Rw.blk {w : World} {e : TypeId} {v : Value} {xs : List Value} (h : Rw w e v xs) {i : Nat} (hi : v.ownBlock = some i) : ∃ cur, w.heap[i]? = some (.cells cur e (0, 0)) := by
  rcases h with ⟨rfl, _⟩ | ⟨g, off, cap, cur, rfl, hg, _⟩
  · cases hi
  · cases hi; exact ⟨cur, hg⟩
theorem Rw.lt {w : World} {e : TypeId} {v : Value} {xs : List Value} (h : Rw w e v xs) {i : Nat} (hi : v.ownBlock = some i) : i < w.heap.size := by
  obtain ⟨cur, hc⟩ := h.blk hi
  exact (Array.getElem?_eq_some_iff.1 hc).1
theorem Rw.of_own {w : World} {B : Nat} {e : TypeId} {v : Value} {xs : List Value} (h : w.ownsRow B e 1 v xs.length xs) : Rw w e v xs := by
  rcases h.2 with ⟨rfl, h0⟩ | ⟨g, cap, cur, rfl, _, hg, hnc, _, hcs, htk⟩
  · exact Or.inl ⟨rfl, List.eq_nil_of_length_eq_zero h0⟩
  · refine Or.inr ⟨g, 0, cap, cur, rfl, hg, hnc, by omega, fun i hi => ?_⟩
    rw [Nat.mul_one] at htk
    have : xs[i]? = cur.toList[i]? := by rw [← htk, List.getElem?_take, if_pos hi]
    rw [List.getElem?_eq_getElem hi] at this
    rw [Nat.zero_add, this, Array.getElem?_toList]
theorem Rw.cell {w : World} {e : TypeId} {v : Value} {xs : List Value} (h : Rw w e v xs) {i : Nat} (hi : i < xs.length) : ∃ g off cap, v = .slice (some ⟨g, off, none⟩) xs.length cap ∧ w.cell? ⟨g, off + i, none⟩ = some xs[i] := by
  rcases h with ⟨rfl, rfl⟩ | ⟨g, off, cap, cur, rfl, hg, _, _, h3⟩
  · simp at hi
  · exact ⟨g, off, cap, rfl, by rw [cell_of_row w g (off + i) cur e _ hg]; exact h3 i hi⟩
/-- One value appended. -/
theorem rw_append {P : Program} {w : World} {t ty e : TypeId} {i : TypeInfo} {z : Value} {bytes : Nat} (ht : P.underlying t = some (.slice e)) (hi : P.info? e = some i) (hz : i.zero = some z) (hsize : i.size = 1) (hby : i.bytes = bytes) (hzs : z.cells.size = 1)
    {v : Value} {xs : List Value} (h : Rw w e v xs) (x : Value) (h1 : x.oneCell' = true) (ad : Addr) (c : Nat) (hx : w.cell? ad = some x) (hl : xs.length + 1 ≤ maxLen) (hb : (xs.length + 1) * bytes ≤ 140737488355328) :
    ∃ v' w', (Builtin.append_ #[t, t] ty #[v, .slice (some ad) 1 c]).run P w = .ok v' w' ∧ Rw w' e v' (xs ++ [x]) ∧ w.grownBy w' v.ownBlock ∧ (v'.ownBlock = v.ownBlock ∨ v'.ownBlock = some w.heap.size) := by
  have hn1 : ([x] : List Value).length = 1 * i.size := by rw [hsize]; rfl
  have hnews : ∀ j u, ([x] : List Value)[j]? = some u → w.cell? (ad.add j) = some u := by
    intro j u hj
    cases j with
    | zero => simp at hj; subst hj; rw [show ad.add 0 = ad by unfold Addr.add; split <;> simp_all]; exact hx
    | succ j => simp at hj
  have fresh : ∀ (v' : Value) (w' : World), w'.ownsRow w.heap.size e 1 v' (xs.length + 1) (xs ++ [x]) → w.grownBy w' none → Rw w' e v' (xs ++ [x]) ∧ w.grownBy w' v.ownBlock := fun v' w' ho hg => by
    refine ⟨Rw.of_own (B := w.heap.size) (by rw [List.length_append]; exact ho), ⟨hg.os, hg.tape, hg.output, hg.size, fun k hk _ => hg.block k hk (by simp)⟩⟩
  rcases h with ⟨rfl, rfl⟩ | ⟨g, off, cap, cur, rfl, hg, hnc, hcs, hx3⟩
  · have hfit : 1 * i.bytes ≤ 281474976710656 := by rw [hby]; simp at hb; omega
    have hr := run_append_nil (P := P) w t ty e i z ht hi hz ad 1 c [x] hn1 hnews (by omega) (by omega) hfit
    have hge := grownCap_ge w 1 0 e
    refine ⟨_, _, hr, Or.inr ⟨w.heap.size, 0, _, _, rfl, heap_alloc_new w.drew _, by simpa using hge, ?_, fun j hj => ?_⟩, ⟨rfl, rfl, rfl, by simp, fun k hk _ => heap_alloc_old w.drew _ hk⟩, Or.inr rfl⟩
    · simp only [Array.size_append, List.size_toArray, size_zeroCells, hzs, List.length_singleton]; omega
    · have : j = 0 := by simpa using hj
      subst this
      show ((#[x] : Array Value) ++ _)[0]? = _
      rw [Array.getElem?_append_left (by simp)]
      rfl
  · by_cases hroom : xs.length + 1 ≤ cap
    · have hc : ∀ j, j < ([x] : List Value).length → (w.cell? ⟨g, off + xs.length * i.size + j, none⟩).isSome = true := by
        intro j hj
        have : j = 0 := by simpa using hj
        subst this
        rw [hsize, cell_of_row w g _ cur e _ hg, Array.getElem?_eq_getElem (by omega)]; rfl
      have hf : ∀ j, j < ([x] : List Value).length → w.frozen? ⟨g, off + xs.length * i.size + j, none⟩ = false := by
        intro j _
        unfold World.frozen?
        rw [hg]
        simp
      have hr := run_append_room_cells (P := P) w t ty e i ht hi g off xs.length cap ad 1 c [x] hn1 hnews (by simpa using h1) hroom hc hf
      refine ⟨_, _, hr, Or.inr ⟨g, off, cap, _, by rw [List.length_append]; rfl, block_set hg _ _, by rw [List.length_append]; exact hroom, by rw [Array.size_setIfInBounds]; exact hcs, fun j hj => ?_⟩, grown_setCell _ _ _ _, Or.inl rfl⟩
      rw [hsize, Nat.mul_one]
      by_cases e1 : j = xs.length
      · subst e1
        rw [Array.getElem?_setIfInBounds_self_of_lt (by omega)]
        simp
      · have hj' : j < xs.length := by rw [List.length_append, List.length_singleton] at hj; omega
        rw [Array.getElem?_setIfInBounds_ne (by omega), hx3 j hj', List.getElem_append_left hj']
    · obtain ⟨v', w', hr, ho, hgr⟩ := run_append_arg_grows (P := P) w t ty e i z 1 bytes ht hi hz hsize hby hzs (by decide) ⟨g, off, none⟩ xs.length cap xs (by omega) (fun j u hj => by
        have hlt : j < xs.length := by
          rcases Nat.lt_or_ge j xs.length with a | a
          · exact a
          · rw [List.getElem?_eq_none a] at hj; cases hj
        rw [List.getElem?_eq_getElem hlt] at hj
        rw [Addr.add_lit, cell_of_row w g (off + j) cur e _ hg, hx3 j hlt]; exact hj) ad 1 c [x] (by rfl) hnews (by omega) hl hb
      obtain ⟨a1, a2⟩ := fresh v' w' ho hgr
      refine ⟨v', w', hr, a1, a2, ?_⟩
      rcases ho.2 with ⟨_, h0⟩ | ⟨g', cap', cur', rfl, hB, hg', _⟩
      · omega
      · right
        show some g' = some w.heap.size
        congr 1
        have hr2 := run_append_grow (P := P) w t ty e i z ht hi hz ⟨g, off, none⟩ xs.length cap xs (by rw [hsize]; omega) (fun j u hj => by
          have hlt : j < xs.length := by
            rcases Nat.lt_or_ge j xs.length with a | a
            · exact a
            · rw [List.getElem?_eq_none a] at hj; cases hj
          rw [List.getElem?_eq_getElem hlt] at hj
          rw [Addr.add_lit, cell_of_row w g (off + j) cur e _ hg, hx3 j hlt]; exact hj) ad 1 c [x] hn1 hnews (by omega) (by unfold maxLen at hl; omega) (by rw [hby]; exact growslice_fits (by omega) hb)
        rw [hr] at hr2
        cases hr2
        rfl
theorem wpList_app_rw {P : Program} {w : World} {ops : Array Oper} {rest : List Oper} {o : Oper} {a : Act} {Q : Exit → Act → World → Prop} (hgd : o.guard = none) (s x : Operand) (t : TypeId)
    (ho : o.op = .call { callee := .builtin .append, args := #[s, x], argTypes := #[t, t] }) (e : TypeId) (i : TypeInfo) (z : Value) (bytes : Nat) (ht : P.underlying t = some (.slice e)) (hi : P.info? e = some i) (hz : i.zero = some z) (hsize : i.size = 1) (hby : i.bytes = bytes) (hzs : z.cells.size = 1)
    (v : Value) (xs : List Value) (hs : a.eval s = v) (h : Rw w e v xs) (y : Value) (h1 : y.oneCell' = true) (ad : Addr) (c : Nat) (hx : a.eval x = .slice (some ad) 1 c) (hc : w.cell? ad = some y) (hl : xs.length + 1 ≤ maxLen) (hb : (xs.length + 1) * bytes ≤ 140737488355328)
    (hK : ∀ v' w', Rw w' e v' (xs ++ [y]) → w.grownBy w' v.ownBlock → (v'.ownBlock = v.ownBlock ∨ v'.ownBlock = some w.heap.size) → wpList P ops Q rest (a.put o.dst v') w') : wpList P ops Q (o :: rest) a w := by
  obtain ⟨v', w', hr, k1, k2, k3⟩ := rw_append (P := P) (ty := o.type) ht hi hz hsize hby hzs h y h1 ad c hc hl hb
  refine wpList_plain hgd fun K hK' => ?_
  unfold Oper.wp
  simp [execOp, ho, resolve, invoke, builtin, hs, hx, hr, Result.andThen]
  exact hK' _ _ (hK v' w' k1 k2 k3)
theorem step_app_rw {P : Program} {w : World} {ops : Array Oper} {o : Oper} {a : Act} {K : Act → World → Prop} {Q : Exit → Act → World → Prop} {E : Prop} (hgd : o.guard = none) (s x : Operand) (t : TypeId)
    (ho : o.op = .call { callee := .builtin .append, args := #[s, x], argTypes := #[t, t] }) (e : TypeId) (i : TypeInfo) (z : Value) (bytes : Nat) (ht : P.underlying t = some (.slice e)) (hi : P.info? e = some i) (hz : i.zero = some z) (hsize : i.size = 1) (hby : i.bytes = bytes) (hzs : z.cells.size = 1)
    (v : Value) (xs : List Value) (hs : a.eval s = v) (h : Rw w e v xs) (y : Value) (h1 : y.oneCell' = true) (ad : Addr) (c : Nat) (hx : a.eval x = .slice (some ad) 1 c) (hc : w.cell? ad = some y) (hl : xs.length + 1 ≤ maxLen) (hb : (xs.length + 1) * bytes ≤ 140737488355328)
    (hK : ∀ v' w', Rw w' e v' (xs ++ [y]) → w.grownBy w' v.ownBlock → (v'.ownBlock = v.ownBlock ∨ v'.ownBlock = some w.heap.size) → K (a.put o.dst v') w') :
    if Region.wanted o (yielded ops a.tmps) = true then Oper.wp P o a w K Q else E := by
  have hw : Region.wanted o (yielded ops a.tmps) = true := by simp [Region.wanted, hgd]
  rw [if_pos hw]
  obtain ⟨v', w', hr, k1, k2, k3⟩ := rw_append (P := P) (ty := o.type) ht hi hz hsize hby hzs h y h1 ad c hc hl hb
  unfold Oper.wp
  simp [execOp, ho, resolve, invoke, builtin, hs, hx, hr, Result.andThen]
  exact hK v' w' k1 k2 k3

end Go.Proofs.YtpldfakfgngaaaaGreatDoor

namespace Go.Proofs.YtpldfakfgngaaaaGreatDoor

def lkP (s : List UInt8) (P : List F3) : Option F3 := P.find? (fun f => f.1 == s)
theorem isP_lk (s : List UInt8) (P : List F3) : isP s P = (lkP s P).isSome := rfl
theorem ofP_lk (s : List UInt8) (P : List F3) : ofP s P = (lkP s P).getD ([], [], 0) := rfl
/-- A file's bytes; none, where there is no file. -/
def gtP (s : List UInt8) (P : List F3) : List UInt8 := (ofP s P).2.1
theorem gtP_some {s : List UInt8} {P : List F3} {f : F3} (h : lkP s P = some f) : gtP s P = f.2.1 := by unfold gtP; rw [ofP_lk, h]; rfl
theorem gtP_none {s : List UInt8} {P : List F3} (h : lkP s P = none) : gtP s P = [] := by unfold gtP; rw [ofP_lk, h]; rfl
theorem lkP_some {s : List UInt8} {P : List F3} {f : F3} (h : lkP s P = some f) : f ∈ P ∧ f.1 = s := ⟨List.mem_of_find?_eq_some h, by simpa using List.find?_some h⟩
theorem lkP_none {s : List UInt8} {P : List F3} (h : lkP s P = none) : ∀ f ∈ P, f.1 ≠ s := fun f hf => by simpa using List.find?_eq_none.1 h f hf
theorem lkP_eq_none {s : List UInt8} {P : List F3} (h : ∀ f ∈ P, f.1 ≠ s) : lkP s P = none := List.find?_eq_none.2 fun f hf => by simpa using h f hf
theorem srtP_inj : ∀ {P : List F3}, SrtP P → ∀ {a b : F3}, a ∈ P → b ∈ P → a.1 = b.1 → a = b
  | [], _, _, _, ha, _, _ => by simp at ha
  | y :: r, h, a, b, ha, hb, e => by
    obtain ⟨h1, h2⟩ := List.pairwise_cons.1 h
    rcases List.mem_cons.1 ha with rfl | ha' <;> rcases List.mem_cons.1 hb with rfl | hb'
    · rfl
    · exact absurd e (lt_ne (h1 b hb'))
    · exact absurd e.symm (lt_ne (h1 a ha'))
    · exact srtP_inj h2 ha' hb' e
theorem lkP_mem {P : List F3} (h : SrtP P) {f : F3} (hf : f ∈ P) : lkP f.1 P = some f := by
  cases e : lkP f.1 P with
  | none => exact absurd rfl (lkP_none e f hf)
  | some x =>
    obtain ⟨a, b⟩ := lkP_some e
    rw [srtP_inj h a hf b]
theorem wthP_mem {f x : F3} : ∀ {P : List F3}, SrtP P → (x ∈ wthP f P ↔ x = f ∨ (x ∈ P ∧ x.1 ≠ f.1))
  | [], _ => by simp [wthP]
  | y :: r, h => by
    obtain ⟨h1, h2⟩ := List.pairwise_cons.1 h
    unfold wthP
    split
    · rename_i hy
      rw [List.mem_cons, List.mem_cons, wthP_mem h2]
      constructor
      · rintro (rfl | rfl | ⟨a, b⟩)
        · exact Or.inr ⟨Or.inl rfl, lt_ne hy⟩
        · exact Or.inl rfl
        · exact Or.inr ⟨Or.inr a, b⟩
      · rintro (rfl | ⟨rfl | a, b⟩)
        · exact Or.inr (Or.inl rfl)
        · exact Or.inl rfl
        · exact Or.inr (Or.inr ⟨a, b⟩)
    · rename_i hy
      split
      · rename_i he
        rw [List.mem_cons, List.mem_cons]
        constructor
        · rintro (rfl | a)
          · exact Or.inl rfl
          · exact Or.inr ⟨Or.inr a, fun e => lt_irr y.1 (by have := h1 x a; rw [e, ← he] at this; exact this)⟩
        · rintro (rfl | ⟨rfl | a, b⟩)
          · exact Or.inl rfl
          · exact absurd he b
          · exact Or.inr a
      · rename_i he
        rw [List.mem_cons, List.mem_cons]
        constructor
        · rintro (rfl | rfl | a)
          · exact Or.inl rfl
          · exact Or.inr ⟨Or.inl rfl, he⟩
          · refine Or.inr ⟨Or.inr a, fun e => ?_⟩
            have h3 := h1 x a
            rw [e] at h3
            exact hy h3
        · rintro (rfl | ⟨rfl | a, b⟩)
          · exact Or.inl rfl
          · exact Or.inr (Or.inl rfl)
          · exact Or.inr (Or.inr a)
theorem wthP_srt {f : F3} : ∀ {P : List F3}, SrtP P → SrtP (wthP f P)
  | [], _ => by simp [wthP, SrtP]
  | y :: r, h => by
    obtain ⟨h1, h2⟩ := List.pairwise_cons.1 h
    unfold wthP
    split
    · rename_i hy
      refine List.pairwise_cons.2 ⟨fun x hx => ?_, wthP_srt h2⟩
      rcases (wthP_mem h2).1 hx with rfl | ⟨a, _⟩
      · exact hy
      · exact h1 x a
    · rename_i hy
      split
      · rename_i he
        exact List.pairwise_cons.2 ⟨fun x hx => he ▸ h1 x hx, h2⟩
      · rename_i he
        have hlt : f.1 < y.1 := by
          rcases lt_tri f.1 y.1 with a | a | a
          · exact a
          · exact absurd a.symm he
          · exact absurd a hy
        refine List.pairwise_cons.2 ⟨fun x hx => ?_, h⟩
        rcases List.mem_cons.1 hx with rfl | hx
        · exact hlt
        · exact lt_tr hlt (h1 x hx)
theorem wtoP_mem {s : List UInt8} {x : F3} {P : List F3} : x ∈ wtoP s P ↔ x ∈ P ∧ x.1 ≠ s := by simp [wtoP]
theorem wtoP_srt {s : List UInt8} {P : List F3} (h : SrtP P) : SrtP (wtoP s P) := List.Pairwise.filter _ h
theorem lkP_wth_same {P : List F3} (h : SrtP P) (f : F3) : lkP f.1 (wthP f P) = some f := lkP_mem (wthP_srt h) ((wthP_mem h).2 (Or.inl rfl))
theorem lkP_wth_other {P : List F3} (h : SrtP P) {f : F3} {s : List UInt8} (hs : s ≠ f.1) : lkP s (wthP f P) = lkP s P := by
  cases e : lkP s P with
  | none =>
    refine lkP_eq_none fun x hx => ?_
    rcases (wthP_mem h).1 hx with rfl | ⟨a, _⟩
    · exact fun e => hs e.symm
    · exact lkP_none e x a
  | some x =>
    obtain ⟨a, rfl⟩ := lkP_some e
    exact lkP_mem (wthP_srt h) ((wthP_mem h).2 (Or.inr ⟨a, hs⟩))
theorem lkP_wto_same (P : List F3) (s : List UInt8) : lkP s (wtoP s P) = none := lkP_eq_none fun _ hx => (wtoP_mem.1 hx).2
theorem lkP_wto_other {P : List F3} (h : SrtP P) {t s : List UInt8} (hs : s ≠ t) : lkP s (wtoP t P) = lkP s P := by
  cases e : lkP s P with
  | none => exact lkP_eq_none fun x hx => lkP_none e x (wtoP_mem.1 hx).1
  | some x =>
    obtain ⟨a, rfl⟩ := lkP_some e
    exact lkP_mem (wtoP_srt h) (wtoP_mem.2 ⟨a, hs⟩)
theorem wtoP_none {s : List UInt8} {P : List F3} (h : lkP s P = none) : wtoP s P = P := List.filter_eq_self.2 fun x hx => by simpa using lkP_none h x hx
theorem srtP_ext : ∀ {A B : List F3}, SrtP A → SrtP B → (∀ x, x ∈ A ↔ x ∈ B) → A = B
  | [], [], _, _, _ => rfl
  | [], b :: B, _, _, h => by have := (h b).2 (by simp); simp at this
  | a :: A, [], _, _, h => by have := (h a).1 (by simp); simp at this
  | a :: A, b :: B, hA, hB, h => by
    obtain ⟨a1, a2⟩ := List.pairwise_cons.1 hA
    obtain ⟨b1, b2⟩ := List.pairwise_cons.1 hB
    have e : a = b := by
      rcases List.mem_cons.1 ((h a).1 (by simp)) with e | h1
      · exact e
      · rcases List.mem_cons.1 ((h b).2 (by simp)) with e | h2
        · exact e.symm
        · exact absurd (lt_tr (a1 b h2) (b1 a h1)) (lt_irr _)
    subst e
    rw [srtP_ext a2 b2 (fun x => ?_)]
    constructor
    · intro hx
      rcases List.mem_cons.1 ((h x).1 (by simp [hx])) with e | hx2
      · exact absurd (e ▸ a1 x hx) (lt_irr _)
      · exact hx2
    · intro hx
      rcases List.mem_cons.1 ((h x).2 (by simp [hx])) with e | hx2
      · exact absurd (e ▸ b1 x hx) (lt_irr _)
      · exact hx2

/-- The numbers of a log's files, in order. -/
def nos (p : List UInt8) (P : List F3) : List Nat := ((P.map (fun f => f.1)).filter (fun x => p.isPrefixOf x)).filterMap (fun s => nof (s.drop p.length))
def okNo (n : Nat) : Prop := 1 ≤ n ∧ n ≤ 1000000000000000
theorem drop_nm (p : List UInt8) (n : Nat) : (nm p n).drop p.length = dgs 16 n := by simp [nm]
theorem pre_nm (p : List UInt8) (n : Nat) : p.isPrefixOf (nm p n) = true := by simp [nm]
theorem nm_of {p s : List UInt8} {n : Nat} (hp : p.isPrefixOf s = true) (h : nof (s.drop p.length) = some n) : s = nm p n ∧ okNo n := by
  obtain ⟨t, rfl⟩ := List.isPrefixOf_iff_prefix.1 hp
  rw [List.drop_left] at h
  obtain ⟨rfl, h1, h2⟩ := nof_some h
  exact ⟨rfl, h1, h2⟩
theorem mem_nos {p : List UInt8} {P : List F3} {n : Nat} : n ∈ nos p P ↔ (∃ f ∈ P, f.1 = nm p n) ∧ okNo n := by
  unfold nos
  rw [List.mem_filterMap]
  constructor
  · rintro ⟨s, hs, hn⟩
    rw [List.mem_filter, List.mem_map] at hs
    obtain ⟨⟨f, hf, rfl⟩, hp⟩ := hs
    obtain ⟨h1, h2⟩ := nm_of hp hn
    exact ⟨⟨f, hf, h1⟩, h2⟩
  · rintro ⟨⟨f, hf, e⟩, h1, h2⟩
    refine ⟨nm p n, ?_, ?_⟩
    · rw [List.mem_filter, List.mem_map]
      exact ⟨⟨f, hf, e⟩, pre_nm p n⟩
    · rw [drop_nm, nof_dgs h1 h2]
theorem mem_nos_lk {p : List UInt8} {P : List F3} {n : Nat} : n ∈ nos p P ↔ (lkP (nm p n) P).isSome = true ∧ okNo n := by
  rw [mem_nos]
  constructor
  · rintro ⟨⟨f, hf, e⟩, h⟩
    refine ⟨?_, h⟩
    cases k : lkP (nm p n) P with
    | none => exact absurd e (lkP_none k f hf)
    | some x => rfl
  · rintro ⟨h1, h⟩
    refine ⟨?_, h⟩
    cases k : lkP (nm p n) P with
    | none => rw [k] at h1; cases h1
    | some x => exact ⟨x, lkP_some k⟩
theorem nos_srt (p : List UInt8) {P : List F3} (h : SrtP P) : (nos p P).Pairwise (· < ·) := by
  have h1 : ((P.map (fun f => f.1)).filter (fun x => p.isPrefixOf x)).Pairwise (· < ·) := List.Pairwise.filter _ (List.pairwise_map.2 h)
  unfold nos
  rw [List.pairwise_filterMap]
  have h2 := List.Pairwise.and_mem.1 h1
  refine h2.imp ?_
  rintro a b ⟨ha, hb, hab⟩ n hn m hm
  obtain ⟨rfl, _, k1⟩ := nm_of (List.mem_filter.1 ha).2 hn
  obtain ⟨rfl, _, k2⟩ := nm_of (List.mem_filter.1 hb).2 hm
  exact (nm_lt p k1 k2).1 hab
theorem nos_nil (p : List UInt8) : nos p [] = [] := rfl
/-- A name that is none of the log's. -/
def alien (p s : List UInt8) : Prop := ∀ n, okNo n → s ≠ nm p n
theorem nos_wto_alien {p s : List UInt8} {P : List F3} (h : SrtP P) (hs : alien p s) : nos p (wtoP s P) = nos p P := by
  refine ord_ext (nos_srt p (wtoP_srt h)) (nos_srt p h) fun n => ?_
  rw [mem_nos, mem_nos]
  constructor
  · rintro ⟨⟨f, hf, e⟩, k⟩
    exact ⟨⟨f, (wtoP_mem.1 hf).1, e⟩, k⟩
  · rintro ⟨⟨f, hf, e⟩, k⟩
    exact ⟨⟨f, wtoP_mem.2 ⟨hf, fun e2 => hs n k (e2.symm.trans e)⟩, e⟩, k⟩
theorem nos_wth_alien {p : List UInt8} {f : F3} {P : List F3} (h : SrtP P) (hs : alien p f.1) : nos p (wthP f P) = nos p P := by
  refine ord_ext (nos_srt p (wthP_srt h)) (nos_srt p h) fun n => ?_
  rw [mem_nos, mem_nos]
  constructor
  · rintro ⟨⟨g, hg, e⟩, k⟩
    rcases (wthP_mem h).1 hg with rfl | ⟨hg, _⟩
    · exact absurd e (hs n k)
    · exact ⟨⟨g, hg, e⟩, k⟩
  · rintro ⟨⟨g, hg, e⟩, k⟩
    exact ⟨⟨g, (wthP_mem h).2 (Or.inr ⟨hg, fun e2 => hs n k (e2.symm.trans e)⟩), e⟩, k⟩
theorem nos_wto {p : List UInt8} {n : Nat} {P : List F3} (h : SrtP P) (hn : okNo n) : nos p (wtoP (nm p n) P) = (nos p P).filter (fun x => x != n) := by
  refine ord_ext (nos_srt p (wtoP_srt h)) ((nos_srt p h).filter _) fun m => ?_
  rw [List.mem_filter, mem_nos, mem_nos]
  constructor
  · rintro ⟨⟨f, hf, e⟩, k⟩
    obtain ⟨a, b⟩ := wtoP_mem.1 hf
    refine ⟨⟨⟨f, a, e⟩, k⟩, ?_⟩
    have : m ≠ n := fun e2 => b (by rw [e, e2])
    simpa using this
  · rintro ⟨⟨⟨f, hf, e⟩, k⟩, hm⟩
    have hm' : m ≠ n := by simpa using hm
    exact ⟨⟨f, wtoP_mem.2 ⟨hf, fun e2 => hm' (nm_inj p k.2 hn.2 (e.symm.trans e2))⟩, e⟩, k⟩
theorem nos_wth_old {p : List UInt8} {n : Nat} {b : List UInt8} {k : Nat} {P : List F3} (h : SrtP P) (hn : n ∈ nos p P) : nos p (wthP (nm p n, b, k) P) = nos p P := by
  refine ord_ext (nos_srt p (wthP_srt h)) (nos_srt p h) fun m => ?_
  rw [mem_nos, mem_nos]
  constructor
  · rintro ⟨⟨f, hf, e⟩, ok⟩
    rcases (wthP_mem h).1 hf with rfl | ⟨hf, _⟩
    · obtain ⟨⟨g, hg, eg⟩, _⟩ := mem_nos.1 hn
      exact ⟨⟨g, hg, eg.trans e⟩, ok⟩
    · exact ⟨⟨f, hf, e⟩, ok⟩
  · rintro ⟨⟨f, hf, e⟩, ok⟩
    by_cases hm : f.1 = nm p n
    · exact ⟨⟨(nm p n, b, k), (wthP_mem h).2 (Or.inl rfl), hm.symm.trans e⟩, ok⟩
    · exact ⟨⟨f, (wthP_mem h).2 (Or.inr ⟨hf, hm⟩), e⟩, ok⟩
theorem nos_wth_new {p : List UInt8} {n : Nat} {b : List UInt8} {k : Nat} {P : List F3} (h : SrtP P) (ok : okNo n) (hn : ∀ m ∈ nos p P, m < n) : nos p (wthP (nm p n, b, k) P) = nos p P ++ [n] := by
  refine ord_ext (nos_srt p (wthP_srt h)) ?_ fun m => ?_
  · rw [List.pairwise_append]
    exact ⟨nos_srt p h, List.pairwise_singleton _ _, fun a ha x hx => by rw [List.mem_singleton.1 hx]; exact hn a ha⟩
  · rw [List.mem_append, List.mem_singleton, mem_nos, mem_nos]
    constructor
    · rintro ⟨⟨f, hf, e⟩, ok'⟩
      rcases (wthP_mem h).1 hf with rfl | ⟨hf, _⟩
      · exact Or.inr (nm_inj p ok.2 ok'.2 e).symm
      · exact Or.inl ⟨⟨f, hf, e⟩, ok'⟩
    · rintro (⟨⟨f, hf, e⟩, ok'⟩ | rfl)
      · by_cases hm : f.1 = nm p n
        · have e3 := nm_inj p ok.2 ok'.2 (hm.symm.trans e)
          subst e3
          exact ⟨⟨_, (wthP_mem h).2 (Or.inl rfl), rfl⟩, ok⟩
        · exact ⟨⟨f, (wthP_mem h).2 (Or.inr ⟨hf, hm⟩), e⟩, ok'⟩
      · exact ⟨⟨_, (wthP_mem h).2 (Or.inl rfl), rfl⟩, ok⟩

/-- The spare name. -/
def sp (p : List UInt8) : List UInt8 := p ++ [116, 109, 112]
theorem sp_alien (p : List UInt8) : alien p (sp p) := fun n _ e => by
  have := congrArg List.length e
  rw [nm_length, sp, List.length_append] at this
  simp at this

end Go.Proofs.YtpldfakfgngaaaaGreatDoor

namespace Go.Proofs.YtpldfakfgngaaaaGreatDoor
open Go.RowKit

/-- A log's file: its number and records; the block in which it lies, and the slice of its records. -/
structure Wf where
  num : Nat
  recs : List (List UInt8)
  g : Nat
  v : Value
/-- What is told of files: numbers and records. -/
def pw (f : Wf) : Nat × List (List UInt8) := (f.num, f.recs)
def Pw (F : List Wf) : List (Nat × List (List UInt8)) := F.map pw
def strV (l : List (List UInt8)) : List Value := l.map fun r => .string (bstr r)
theorem strV_len (l : List (List UInt8)) : (strV l).length = l.length := by simp [strV]
def ptrV (F : List Wf) : List Value := F.map fun f => .pointer (some ⟨f.g, 0, none⟩)
theorem ptrV_len (F : List Wf) : (ptrV F).length = F.length := by simp [ptrV]
/-- A file lies there. -/
structure WfAt (w : World) (p : List UInt8) (f : Wf) : Prop where
  blk : w.heap[f.g]? = some (.cells #[.string (bstr (nm p f.num)), .int .u64 (f.num : Int), .int .i64 (totS f.recs : Int), f.v] 99 (0, 0))
  row : Rw w 9 f.v (strV f.recs)
/-- Where a log lies: its disk's block, its own, the two boxes of its closure; its prefix, and how great files become. -/
structure Wk where
  d : Nat
  g : Nat
  ca : Nat
  cb : Nat
  p : List UInt8
  most : Int
def Wk.fn (k : Wk) : Value := .func (.func 73) #[] #[.pointer (some ⟨k.ca, 0, none⟩), .pointer (some ⟨k.cb, 0, none⟩)]
/-- A log's blocks. -/
def Fw (k : Wk) (F : List Wf) (v : Value) (i : Nat) : Prop := i = k.g ∨ i = k.ca ∨ i = k.cb ∨ v.ownBlock = some i ∨ ∃ f ∈ F, i = f.g ∨ f.v.ownBlock = some i
structure Wm (w : World) (k : Wk) (F : List Wf) (v : Value) : Prop where
  blk : w.heap[k.g]? = some (.cells #[.pointer (some ⟨k.d, 0, none⟩), .string (bstr k.p), .int .i64 k.most, k.fn, v] 84 (0, 0))
  ca : w.heap[k.ca]? = some (.cells #[.pointer (some ⟨k.d, 0, none⟩)] 26 (0, 0))
  cb : w.heap[k.cb]? = some (.cells #[.string (bstr (sp k.p))] 9 (0, 0))
  row : Rw w 100 v (ptrV F)
  fl : ∀ f ∈ F, WfAt w k.p f
  gs : F.Pairwise (fun a b => a.g ≠ b.g)
  rs : F.Pairwise (fun a b => a.v.ownBlock = none ∨ a.v.ownBlock ≠ b.v.ownBlock)
  nb : ∀ f ∈ F, f.v.ownBlock ≠ some k.cb
theorem WfAt.kept {w w' : World} {p : List UInt8} {f : Wf} (h : WfAt w p f) (h1 : w'.heap[f.g]? = w.heap[f.g]?) (h2 : ∀ i, f.v.ownBlock = some i → w'.heap[i]? = w.heap[i]?) : WfAt w' p f := ⟨h1.trans h.blk, h.row.kept h2⟩
theorem Wm.kept {w w' : World} {k : Wk} {F : List Wf} {v : Value} (h : Wm w k F v) (hb : ∀ i, Fw k F v i → w'.heap[i]? = w.heap[i]?) : Wm w' k F v :=
  ⟨(hb _ (Or.inl rfl)).trans h.blk, (hb _ (Or.inr (Or.inl rfl))).trans h.ca, (hb _ (Or.inr (Or.inr (Or.inl rfl)))).trans h.cb, h.row.kept fun i hi => hb i (Or.inr (Or.inr (Or.inr (Or.inl hi)))),
    fun f hf => (h.fl f hf).kept (hb _ (Or.inr (Or.inr (Or.inr (Or.inr ⟨f, hf, Or.inl rfl⟩))))) (fun i hi => hb i (Or.inr (Or.inr (Or.inr (Or.inr ⟨f, hf, Or.inr hi⟩))))), h.gs, h.rs, h.nb⟩
/-- What each block of a log is. -/
theorem Wm.what {w : World} {k : Wk} {F : List Wf} {v : Value} (h : Wm w k F v) {i : Nat} (hi : Fw k F v i) :
    ∃ cur t, w.heap[i]? = some (.cells cur t (0, 0)) ∧ (t = 84 ∨ t = 26 ∨ t = 9 ∨ t = 100 ∨ t = 99) := by
  rcases hi with rfl | rfl | rfl | e | ⟨f, hf, rfl | e⟩
  · exact ⟨_, _, h.blk, Or.inl rfl⟩
  · exact ⟨_, _, h.ca, Or.inr (Or.inl rfl)⟩
  · exact ⟨_, _, h.cb, Or.inr (Or.inr (Or.inl rfl))⟩
  · obtain ⟨cur, hc⟩ := h.row.blk e
    exact ⟨_, _, hc, Or.inr (Or.inr (Or.inr (Or.inl rfl)))⟩
  · exact ⟨_, _, (h.fl f hf).blk, Or.inr (Or.inr (Or.inr (Or.inr rfl)))⟩
  · obtain ⟨cur, hc⟩ := (h.fl f hf).row.blk e
    exact ⟨_, _, hc, Or.inr (Or.inr (Or.inl rfl))⟩
theorem Wm.lt {w : World} {k : Wk} {F : List Wf} {v : Value} (h : Wm w k F v) {i : Nat} (hi : Fw k F v i) : i < w.heap.size := by
  obtain ⟨cur, t, e, _⟩ := h.what hi
  exact (Array.getElem?_eq_some_iff.1 e).1
theorem Wm.below {w w' : World} {k : Wk} {F : List Wf} {v : Value} (h : Wm w k F v) (hb : Below w.heap.size w w') : Wm w' k F v := h.kept fun i hi => hb.block i (h.lt hi)
/-- A log's blocks are none of its disk's. -/
theorem Wm.far {w : World} {k : Wk} {F : List Wf} {v : Value} (h : Wm w k F v) {d m fr N : Nat} {L : List Fl} (hD : Dk w d m L fr N) {i : Nat} (hi : Fw k F v i) : ¬ Ft d m L i := by
  obtain ⟨cur, t, e, ht⟩ := h.what hi
  refine hD.other e ?_
  rcases ht with rfl | rfl | rfl | rfl | rfl <;> decide
/-- Behind a step of the disk a log is as it was. -/
theorem Wm.disk {w w' : World} {k : Wk} {F : List Wf} {v : Value} (h : Wm w k F v) {d m fr N : Nat} {L : List Fl} (hD : Dk w d m L fr N) (hk : Kp w w' (Ft d m L)) : Wm w' k F v :=
  h.kept fun i hi => hk.block i (h.lt hi) (h.far hD hi)
/-- Behind a step of the log its disk is as it was. -/
theorem Dk.log {w w' : World} {k : Wk} {F : List Wf} {v : Value} (h : Wm w k F v) {d m fr N : Nat} {L : List Fl} (hD : Dk w d m L fr N) (hk : Kp w w' (Fw k F v)) : Dk w' d m L fr N :=
  hD.kept fun i hi => hk.block i (hD.lt hi) (fun hw => h.far hD hw hi)

/-- The variables of seal and of the library: what the program's start laid, below a place. -/
structure Vw (B : Nat) (w : World) : Prop where
  tabs : Tabs w
  pow : Lib.TabIs Tryz.prog w "internal/strconv.uint64pow10" .u64 Lib.pow10Tab
  syn : ∃ tp q, w.cell? ⟨3, 0, none⟩ = some (.iface tp q)
  low : 8 ≤ B
  le : B ≤ w.heap.size
theorem Vw.below {B : Nat} {w w' : World} (h : Vw B w) (hb : Below B w w') : Vw B w' := by
  have h8 := h.low
  refine ⟨⟨?_, fun i hi => ?_, fun i hi => ?_⟩, ?_, ?_, h.low, Nat.le_trans h.le hb.size⟩
  · have := hb.size
    have := h.tabs.1
    omega
  · rw [(bcell hb).1 0 i (by omega)]; exact h.tabs.2.1 i hi
  · rw [(bcell hb).1 1 i (by omega)]; exact h.tabs.2.2 i hi
  · have e : w'.var? Tryz.prog "internal/strconv.uint64pow10" = w.var? Tryz.prog "internal/strconv.uint64pow10" := by
      unfold World.var?
      rw [show Tryz.prog.globalNamed "internal/strconv.uint64pow10" = some 2 by kernel_rfl, Option.bind_some, Option.bind_some, hb.block 2 (by omega)]
    have := h.pow
    unfold Lib.TabIs at this ⊢
    rw [e]; exact this
  · obtain ⟨tp, q, hc⟩ := h.syn
    exact ⟨tp, q, by rw [(bcell hb).1 3 0 (by omega)]; exact hc⟩
theorem Vw.on {B : Nat} {w w' : World} (h : Vw B w) (hb : Below w.heap.size w w') : Vw B w' := h.below (hb.mono h.le)

/-- A log and its disk, from block B on. -/
structure Lo (B : Nat) (w : World) (m : Nat) (L : List Fl) (fr N : Nat) (k : Wk) (F : List Wf) (v : Value) : Prop where
  dk : Dk w k.d m L fr N
  wm : Wm w k F v
  geD : ∀ i, Ft k.d m L i → B ≤ i
  geW : ∀ i, Fw k F v i → B ≤ i
  vw : Vw B w
theorem Lo.below {B : Nat} {w w' : World} {m fr N : Nat} {L : List Fl} {k : Wk} {F : List Wf} {v : Value} (h : Lo B w m L fr N k F v) (hb : Below w.heap.size w w') : Lo B w' m L fr N k F v :=
  ⟨h.dk.below hb, h.wm.below hb, h.geD, h.geW, h.vw.on hb⟩
theorem Lo.disk {B : Nat} {w w' : World} {m fr N fr' N' : Nat} {L L' : List Fl} {k : Wk} {F : List Wf} {v : Value} (h : Lo B w m L fr N k F v) (hs : Stp w w' k.d m L L' fr' N') : Lo B w' m L' fr' N' k F v := by
  refine ⟨hs.dk, h.wm.disk h.dk hs.kp, fun i hi => ?_, h.geW, h.vw.below (hs.kp.below h.vw.le h.geD)⟩
  rcases hs.ft i hi with a | a
  · exact h.geD i a
  · exact Nat.le_trans h.vw.le a
/-- What a step of a log leaves as it was. -/
structure Ks (w w' : World) (m : Nat) (L L' : List Fl) (k : Wk) (F F' : List Wf) (v v' : Value) : Prop where
  kp : Kp w w' (fun i => Ft k.d m L i ∨ Fw k F v i)
  ft : ∀ i, Ft k.d m L' i → Ft k.d m L i ∨ w.heap.size ≤ i
  fw : ∀ i, Fw k F' v' i → Fw k F v i ∨ w.heap.size ≤ i
theorem Ks.refl (w : World) (m : Nat) (L : List Fl) (k : Wk) (F : List Wf) (v : Value) : Ks w w m L L k F F v v := ⟨Kp.refl _ _, fun _ h => Or.inl h, fun _ h => Or.inl h⟩
theorem Ks.trans {a b c : World} {m : Nat} {L L' L'' : List Fl} {k : Wk} {F F' F'' : List Wf} {v v' v'' : Value} (h : Ks a b m L L' k F F' v v') (g : Ks b c m L' L'' k F' F'' v' v'') : Ks a c m L L'' k F F'' v v'' := by
  have hs := h.kp.size
  refine ⟨h.kp.trans g.kp fun i hi => ?_, fun i hi => ?_, fun i hi => ?_⟩
  · rcases hi with hi | hi
    · rcases h.ft i hi with a | a
      · exact Or.inl (Or.inl a)
      · exact Or.inr a
    · rcases h.fw i hi with a | a
      · exact Or.inl (Or.inr a)
      · exact Or.inr a
  · rcases g.ft i hi with a | a
    · exact h.ft i a
    · exact Or.inr (Nat.le_trans hs a)
  · rcases g.fw i hi with a | a
    · exact h.fw i a
    · exact Or.inr (Nat.le_trans hs a)
theorem Ks.below {a b c : World} {m : Nat} {L L' : List Fl} {k : Wk} {F F' : List Wf} {v v' : Value} (h : Ks a b m L L' k F F' v v') (hb : Below b.heap.size b c) : Ks a c m L L' k F F' v v' :=
  h.trans ⟨Kp.of_below _ hb, fun _ h => Or.inl h, fun _ h => Or.inl h⟩
theorem Ks.of_below {a b : World} {m : Nat} (L : List Fl) (k : Wk) (F : List Wf) (v : Value) (hb : Below a.heap.size a b) : Ks a b m L L k F F v v := (Ks.refl a m L k F v).below hb
theorem Ks.of_disk {w w' : World} {m fr' N' : Nat} {L L' : List Fl} {k : Wk} (F : List Wf) (v : Value) (hs : Stp w w' k.d m L L' fr' N') : Ks w w' m L L' k F F v v :=
  ⟨hs.kp.mono fun _ h => Or.inl (Or.inl h), hs.ft, fun _ h => Or.inl h⟩
theorem Lo.frame {B : Nat} {w w' : World} {m fr N : Nat} {L L' : List Fl} {k : Wk} {F F' : List Wf} {v v' : Value} (h : Lo B w m L fr N k F v) (hk : Ks w w' m L L' k F F' v v') : Below B w w' :=
  hk.kp.below h.vw.le fun i hi => by
    rcases hi with a | a
    · exact h.geD i a
    · exact h.geW i a
/-- A log behind a step of its own memory. -/
theorem Lo.log {B : Nat} {w w' : World} {m fr N : Nat} {L : List Fl} {k : Wk} {F F' : List Wf} {v v' : Value} (h : Lo B w m L fr N k F v) (hw : Wm w' k F' v') (hk : Kp w w' (Fw k F v)) (hf : ∀ i, Fw k F' v' i → Fw k F v i ∨ w.heap.size ≤ i) :
    Lo B w' m L fr N k F' v' ∧ Ks w w' m L L k F F' v v' := by
  have hK : Ks w w' m L L k F F' v v' := ⟨hk.mono fun _ h => Or.inl (Or.inr h), fun _ h => Or.inl h, hf⟩
  refine ⟨⟨h.dk.log h.wm hk, hw, h.geD, fun i hi => ?_, h.vw.below (h.frame hK)⟩, hK⟩
  rcases hf i hi with a | a
  · exact h.geW i a
  · exact Nat.le_trans h.vw.le a

end Go.Proofs.YtpldfakfgngaaaaGreatDoor

namespace Go.Proofs.YtpldfakfgngaaaaGreatDoor
open Go.RowKit Go.Sort
attribute [local go_sem] size_bstr toList_bstr append_bstr

theorem dec_dgs : ∀ (k n : Nat), 1 ≤ k → n < 10 ^ k → List.replicate (k - (Lib.decDigits n).length) 48 ++ Lib.decDigits n = dgs k n
  | 0, _, h, _ => by omega
  | k + 1, n, _, h => by
    have z : ∀ j, dgs j 0 = List.replicate j 48 := by
      intro j
      induction j with
      | zero => rfl
      | succ j ih => rw [dgs, Nat.zero_div, ih, List.replicate_succ']; rfl
    by_cases hn : n < 10
    · rw [Lib.decDigits_one hn, dgs, show n / 10 = 0 by omega, z, show n % 10 = n by omega]
      rfl
    · have hk : 1 ≤ k := by
        rcases Nat.eq_zero_or_pos k with rfl | h0
        · omega
        · exact h0
      have e : Lib.decDigits n = Lib.decDigits (n / 10) ++ [UInt8.ofNat (48 + n % 10)] := by rw [Lib.decDigits, dif_neg hn]
      rw [e, dgs, List.length_append, List.length_singleton, Nat.add_sub_add_right, ← List.append_assoc, dec_dgs k (n / 10) hk (by rw [Nat.pow_succ] at h; omega)]
theorem dec_len {n : Nat} (h : n < 10 ^ 16) : (Lib.decDigits n).length ≤ 16 := by
  have := congrArg List.length (dec_dgs 16 n (by decide) h)
  rw [List.length_append, dgs_length] at this
  omega
theorem repeat_one : ∀ c : Nat, Lib.repeatL (⟨#[48]⟩ : ByteArray).data.toList c = List.replicate c 48
  | 0 => rfl
  | c + 1 => by rw [Lib.repeatL, repeat_one c, List.replicate_succ]; rfl
/-- Digits read one by one. -/
theorem parse_dig : ∀ (l : List UInt8) (j acc : Nat), acc < 10 ^ j → j + l.length ≤ 16 → Lib.parseUintM (2 ^ 64 - 1) acc l = if l.all isD = true then .ok (l.foldl (fun a c => 10 * a + (c.toNat - 48)) acc) else .«syntax»
  | [], _, _, _, _ => by simp [Lib.parseUintM]
  | c :: r, j, acc, h, hl => by
    rw [List.length_cons] at hl
    by_cases hc : isD c = true
    · have hb := isD_bounds hc
      have hp : 10 ^ j ≤ 10 ^ 15 := Nat.pow_le_pow_right (by decide) (by omega)
      have h2 : acc * 10 + (c.toNat - 48) < 10 ^ (j + 1) := by rw [Nat.pow_succ]; omega
      have e15 : (10 : Nat) ^ 15 = 1000000000000000 := by decide
      have e64 : (2 : Nat) ^ 64 = 18446744073709551616 := by decide
      rw [Lib.parseUintM, if_pos hb, if_neg (by omega), if_neg (by omega), parse_dig r (j + 1) _ h2 (by omega), List.all_cons, hc, Bool.true_and, List.foldl_cons, Nat.mul_comm acc 10]
    · have hb : ¬ (48 ≤ c.toNat ∧ c.toNat ≤ 57) := by simpa [isD] using hc
      rw [Lib.parseUintM, if_neg hb, List.all_cons]
      simp [hc]
theorem parse16 {l : List UInt8} (h : l.length = 16) : Lib.parseUintB 64 l = if l.all isD = true then .ok (numL l) else .«syntax» := by
  have hne : l ≠ [] := fun e => by rw [e] at h; simp at h
  rw [Lib.parseUintB, if_neg hne, parse_dig l 0 0 (by decide) (by omega)]
  rfl

set_option maxHeartbeats 2000000 in
set_option maxRecDepth 100000 in
theorem iFormat_any (n : Nat) (hn : n < 18446744073709551616) (w : World) (htab : Lib.TabIs Tryz.prog w "internal/strconv.uint64pow10" .u64 Lib.pow10Tab) :
    Calls Tryz.prog 117 #[.int .u64 n, .int .i64 10] w fun e w' => e = .returned (.string (bstr (Lib.decDigits n))) ∧ Below w.heap.size w w' := by
  by_cases hs : n < 100
  · go_enter Tryz.func117, Tryz.ntmps117
    go_wp2_with fail
    refine (Tryz.internal_strconv_small n hs _).mono ?_
    rintro e w' ⟨rfl, rfl⟩
    go_wp2
    go_ret
    exact ⟨rfl, Below.refl _ _⟩
  · have hu1 : 1 ≤ n := by omega
    have hnd20 : Lib.nDigits n ≤ 20 := by have := Lib.numDigits_eq n hu1 hn; split at this <;> omega
    have hal : Tryz.prog.arrayLen 181 = 24 := by kernel_rfl
    have hsl : ∀ W, (Instr.sliceAt 181 (.pointer (some ⟨w.heap.size, 0, none⟩)) none (some (.int .i64 (Lib.nDigits n : Int))) none).run Tryz.prog W = .ok (.slice (some ⟨w.heap.size, 0, none⟩) (Lib.nDigits n) 24) W := fun W => by
      rw [run_sliceAt_array_h W 181 ⟨w.heap.size, 0, none⟩ (by kernel_rfl) .i64 (Lib.nDigits n : Int) (by omega) (by rw [hal]; omega)]
      go_simp
    have hH0 := Lib.holds_zero0 w 181 (Lib.nDigits n) (by omega)
    have hfmt := Tryz.internal_strconv_formatBase10 w.heap.size 0 24 n (Array.replicate (Lib.nDigits n) 0) (w.alloc (.cells Lib.zeros24 181)) hH0 (by rw [Array.size_replicate]; exact Lib.lt_pow_nDigits n) hn (by rw [Array.size_replicate]; omega)
    rw [Array.size_replicate] at hfmt
    have HH0 := Lib.hid hH0
    clear hH0 hal
    go_enter Tryz.func117, Tryz.ntmps117
    go_wp2_with fail
    refine (Tryz.internal_strconv_numDigits n hu1 hn _ (Lib.tabIs_alloc htab _)).mono ?_
    rintro e w' ⟨rfl, rfl⟩
    go_wp2_with fail
    refine hfmt.mono ?_
    rintro e w' ⟨rfl, k, v', dk, rfl, hF⟩
    have hcv : (convert 73 9 (.slice (some ⟨w.heap.size, 0, none⟩) (Lib.nDigits n) 24)).run Tryz.prog ((putRow (fun (b : UInt8) => Value.int .u8 (b.toNat : Int)) (w.alloc (.cells Lib.zeros24 181)) w.heap.size 0 dk).drewN k) = .ok (.string ⟨(Lib.decDigits n).toArray⟩) ((putRow (fun (b : UInt8) => Value.int .u8 (b.toNat : Int)) (w.alloc (.cells Lib.zeros24 181)) w.heap.size 0 dk).drewN k) := by
      have h := run_convert_bytes_back (P := Tryz.prog) ((putRow (fun (b : UInt8) => Value.int .u8 (b.toNat : Int)) (w.alloc (.cells Lib.zeros24 181)) w.heap.size 0 dk).drewN k) 73 9 5 ⟨w.heap.size, 0, none⟩ 24 (Lib.decDigits n) Tryz.underlying73 Tryz.underlying5 Tryz.underlying9 (fun j hj => by
        rw [Lib.row_is_numeral hF j hj, Lib.add_plain, World.cell?_drewN]
        exact cell?_putRow (fun (b : UInt8) => Value.int .u8 (b.toNat : Int)) _ w.heap.size 0 _ dk HH0.out (by rw [hF.size, Array.size_replicate]) j (by rw [hF.size]; rw [Lib.decDigits_length] at hj; exact hj))
      rw [Lib.decDigits_length] at h
      exact h
    go_wp2
    go_ret
    obtain ⟨os, eo⟩ := Lib.fin_at w (.cells Lib.zeros24 181) dk k 0
    refine ⟨rfl, ?_⟩
    rw [eo]
    exact ⟨rfl, rfl, rfl, by simp [grow], fun i hi => by simp [grow, Array.getElem?_append_left hi]⟩

set_option maxHeartbeats 2000000 in
set_option maxRecDepth 100000 in
theorem digitsOf_any (n : Nat) (hn : n < 10 ^ 16) (w : World) (htab : Lib.TabIs Tryz.prog w "internal/strconv.uint64pow10" .u64 Lib.pow10Tab) :
    Calls Tryz.prog 88 #[.int .u64 n] w fun e w' => e = .returned (.string (bstr (dgs 16 n))) ∧ Below w.heap.size w w' := by
  have h16 := dec_len hn
  have hn64 : n < 18446744073709551616 := Nat.lt_of_lt_of_le hn (by decide)
  have hd := dec_dgs 16 n (by decide) hn
  have HD : Hid (List.replicate (16 - (Lib.decDigits n).length) 48 ++ Lib.decDigits n = dgs 16 n) := hd
  clear hd
  have hform : ∀ w, Lib.TabIs Tryz.prog w "internal/strconv.uint64pow10" .u64 Lib.pow10Tab → Calls Tryz.prog 100 #[.int .u64 n, .int .i64 10] w fun e w' => e = .returned (.string (bstr (Lib.decDigits n))) ∧ Below w.heap.size w w' := by
    intro w htab
    go_enter Tryz.func100, Tryz.ntmps100
    go_wp2_with fail
    refine (iFormat_any n hn64 _ htab).mono ?_
    rintro e w' ⟨rfl, hb⟩
    go_wp2
    go_ret
    exact ⟨rfl, hb⟩
  obtain ⟨l, hl⟩ : ∃ l, l = Lib.decDigits n := ⟨_, rfl⟩
  rw [← hl] at h16 HD hform
  clear hl
  go_enter Tryz.func88, Tryz.ntmps88
  go_wp2_with fail
  refine (hform _ htab).mono ?_
  rintro e w1 ⟨rfl, hb1⟩
  have hsz : (16 : Int) - (l.length : Int) = ((16 - l.length : Nat) : Int) := by omega
  have HZ : Hid ((16 : Int) - (l.length : Int) = ((16 - l.length : Nat) : Int)) := hsz
  clear hsz
  go_wp2_with fail
  rw [HZ.out]
  refine (Tryz.strings_Repeat ⟨#[48]⟩ (16 - l.length) _ (by omega) (by show 1 * (16 - l.length) ≤ _; omega)).mono ?_
  rintro e w2 ⟨he, hb2⟩
  have he2 : e = .returned (.string (bstr (List.replicate (16 - l.length) 48))) := by rw [he, repeat_one]; rfl
  clear he
  subst he2
  go_wp2
  go_ret
  refine ⟨?_, hb1.trans (hb2.mono hb1.size)⟩
  rw [← HD.out]; rfl

theorem Bsyn {w w' : World} {B : Nat} {ev : Value} (hb : Below B w w') (h3 : 3 < B) (h : w.cell? ⟨3, 0, none⟩ = some ev) : w'.cell? ⟨3, 0, none⟩ = some ev := by rw [(bcell hb).1 3 0 h3]; exact h
set_option maxHeartbeats 2000000 in
set_option maxRecDepth 100000 in
theorem ParseUint_any (t : List UInt8) (ht : t.length = 16) (w : World) (hv : ∃ tp q, w.cell? ⟨3, 0, none⟩ = some (.iface tp q)) (h8 : 8 ≤ w.heap.size) :
    Calls Tryz.prog 105 #[.string (bstr t), .int .i64 10, .int .i64 64] w fun e w' => (if t.all isD = true then e = .returned (.tuple #[.int .u64 (numL t : Int), .nilIface]) else ∃ T N, e = .returned (.tuple #[.int .u64 0, .iface T (.pointer (some ⟨N, 0, none⟩))])) ∧ Below w.heap.size w w' := by
  have hp := Tryz.internal_strconv_ParseUint_10_at64 (bstr t) (by rw [size_bstr, ht]; decide) w
  rw [data_bstr, parse16 ht] at hp
  have hbw : ∀ w' : World, (w' = w ∨ w' = Lib.bytesWorld w 5 (bstr t)) → Below w.heap.size w w' := by
    rintro w' (rfl | rfl)
    · exact Below.refl _ _
    · exact Lib.bytesWorld_below w _ _
  cases hd : t.all isD with
  | true =>
    simp only [hd, if_true, Lib.uintTupleM] at hp ⊢
    go_enter Tryz.func105, Tryz.ntmps105
    go_wp2_with fail
    refine hp.mono ?_
    rintro e w1 ⟨rfl, hw1⟩
    have hb1 := hbw _ hw1
    clear hw1
    go_wp2
    go_ret2
    exact ⟨rfl, hb1⟩
  | false =>
    simp only [hd, Bool.false_eq_true, if_false, Lib.uintTupleM] at hp ⊢
    obtain ⟨tp, q, hc⟩ := hv
    go_enter Tryz.func105, Tryz.ntmps105
    go_wp2_with fail
    refine hp.mono ?_
    rintro e w1 ⟨rfl, hw1⟩
    have hb1 := hbw _ hw1
    clear hw1
    go_wp2_with fail
    refine (Tryz.strconv_toError_syntax _ (bstr t) 10 64 (.iface tp q) _ (by rw [size_bstr, ht]; decide) (Bsyn hb1 (by omega) hc) (Or.inr ⟨_, _, rfl⟩)).mono ?_
    rintro e w2 ⟨N, rfl, _, _, hb2⟩
    go_wp2
    go_ret2
    exact ⟨⟨_, N, rfl⟩, hb1.trans (hb2.mono hb1.size)⟩

set_option maxHeartbeats 2000000 in
set_option maxRecDepth 100000 in
theorem numberOf_any (t : List UInt8) (w : World) (hv : ∃ tp q, w.cell? ⟨3, 0, none⟩ = some (.iface tp q)) (h8 : 8 ≤ w.heap.size) :
    Calls Tryz.prog 96 #[.string (bstr t)] w fun e w' => e = .returned (.tuple #[.int .u64 (((nof t).getD 0 : Nat) : Int), .bool (nof t).isSome]) ∧ Below w.heap.size w w' := by
  by_cases ht : t.length = 16
  · have hP := ParseUint_any t ht w hv h8
    have hlt : t.all isD = true → numL t < 10 ^ 16 := fun h => by
      have := numL_lt t (fun c hc => List.all_eq_true.1 h c hc)
      rw [ht] at this; exact this
    cases hd : t.all isD with
    | false =>
      have hn : nof t = none := nof_none_iff.2 (fun h => by rw [hd] at h; exact absurd h.2.1 (by decide))
      simp only [hd, Bool.false_eq_true, if_false] at hP
      rw [hn]
      go_enter Tryz.func96, Tryz.ntmps96
      go_wp2_with fail
      refine hP.mono ?_
      rintro e w1 ⟨⟨T, N, rfl⟩, hb1⟩
      go_wp2
      go_ret2
      exact ⟨rfl, hb1⟩
    | true =>
      have hlt := hlt hd
      simp only [hd, if_true] at hP
      obtain ⟨n, en⟩ : ∃ n, n = numL t := ⟨_, rfl⟩
      rw [← en] at hP hlt
      by_cases h1 : 1 ≤ n ∧ n ≤ 1000000000000000
      · have hn : nof t = some n := by unfold nof; rw [if_pos ⟨ht, hd, by rw [← en]; exact h1⟩, en]
        rw [hn]
        clear en hn
        obtain ⟨h2, h3⟩ := h1
        have g1 : ¬ ((n : Int) < 1) := by omega
        have g2 : ¬ ((1000000000000000 : Int) < (n : Int)) := by omega
        go_enter Tryz.func96, Tryz.ntmps96
        go_wp2_with fail
        refine hP.mono ?_
        rintro e w1 ⟨rfl, hb1⟩
        go_wp2
        go_ret2
        exact ⟨rfl, hb1⟩
      · have hn : nof t = none := nof_none_iff.2 (fun h => h1 (by rw [en]; exact h.2.2))
        rw [hn]
        clear en hn
        by_cases g1 : (n : Int) < 1
        · go_enter Tryz.func96, Tryz.ntmps96
          go_wp2_with fail
          refine hP.mono ?_
          rintro e w1 ⟨rfl, hb1⟩
          go_wp2
          go_ret2
          exact ⟨rfl, hb1⟩
        · have g2 : (1000000000000000 : Int) < (n : Int) := by omega
          go_enter Tryz.func96, Tryz.ntmps96
          go_wp2_with fail
          refine hP.mono ?_
          rintro e w1 ⟨rfl, hb1⟩
          go_wp2
          go_ret2
          exact ⟨rfl, hb1⟩
  · have hn : nof t = none := nof_none_iff.2 (fun h => ht h.1)
    rw [hn]
    have g : ¬ ((t.length : Int) = 16) := by omega
    go_enter Tryz.func96, Tryz.ntmps96
    go_wp2
    go_ret2
    exact ⟨rfl, Below.refl _ _⟩

end Go.Proofs.YtpldfakfgngaaaaGreatDoor

namespace Go.Proofs.YtpldfakfgngaaaaGreatDoor
open Go.RowKit
attribute [local go_sem] size_bstr toList_bstr append_bstr

/-- The cells of a block that is known. -/
theorem cells5 {w : World} {g : Nat} {a b c d e : Value} {t : TypeId} (h : w.heap[g]? = some (.cells #[a, b, c, d, e] t (0, 0))) :
    w.cell? ⟨g, 0, none⟩ = some a ∧ w.cell? ⟨g, 1, none⟩ = some b ∧ w.cell? ⟨g, 2, none⟩ = some c ∧ w.cell? ⟨g, 3, none⟩ = some d ∧ w.cell? ⟨g, 4, none⟩ = some e :=
  ⟨cell_of_row w g 0 _ t _ h, cell_of_row w g 1 _ t _ h, cell_of_row w g 2 _ t _ h, cell_of_row w g 3 _ t _ h, cell_of_row w g 4 _ t _ h⟩
theorem cells4 {w : World} {g : Nat} {a b c d : Value} {t : TypeId} (h : w.heap[g]? = some (.cells #[a, b, c, d] t (0, 0))) :
    w.cell? ⟨g, 0, none⟩ = some a ∧ w.cell? ⟨g, 1, none⟩ = some b ∧ w.cell? ⟨g, 2, none⟩ = some c ∧ w.cell? ⟨g, 3, none⟩ = some d :=
  ⟨cell_of_row w g 0 _ t _ h, cell_of_row w g 1 _ t _ h, cell_of_row w g 2 _ t _ h, cell_of_row w g 3 _ t _ h⟩
theorem cells1 {w : World} {g : Nat} {a : Value} {t : TypeId} (h : w.heap[g]? = some (.cells #[a] t (0, 0))) : w.cell? ⟨g, 0, none⟩ = some a := cell_of_row w g 0 _ t _ h

theorem wnone_nil (w : World) : Calls Tryz.prog 51 #[.pointer none] w fun e w' => e = .returned (.bool true) ∧ w' = w := by
  go_enter Tryz.func51, Tryz.ntmps51
  go_wp2
  go_ret
  exact ⟨rfl, rfl⟩

set_option maxHeartbeats 1000000 in
theorem wnone_any {k : Wk} {F : List Wf} {v : Value} (w : World) (h : Wm w k F v) : Calls Tryz.prog 51 #[.pointer (some ⟨k.g, 0, none⟩)] w fun e w' => e = .returned (.bool false) ∧ w' = w := by
  obtain ⟨c0, -, -, -, -⟩ := cells5 h.blk
  go_enter Tryz.func51, Tryz.ntmps51
  go_wp2
  go_ret
  exact ⟨rfl, rfl⟩

set_option maxHeartbeats 1000000 in
theorem fnext_any {p : List UInt8} {f : Wf} (w : World) (h : WfAt w p f) (hf : f.num + f.recs.length < 18446744073709551616) :
    Calls Tryz.prog 62 #[.pointer (some ⟨f.g, 0, none⟩)] w fun e w' => e = .returned (.int .u64 ((f.num + f.recs.length : Nat) : Int)) ∧ Below w.heap.size w w' := by
  obtain ⟨-, c1, -, c3⟩ := cells4 h.blk
  obtain ⟨q, cap, hv⟩ := h.row.len
  rw [hv, strV_len] at c3
  have e : Hid ((f.num : Int) + (f.recs.length : Int) = ((f.num + f.recs.length : Nat) : Int)) := by show _ = _; omega
  have b1 : (0 : Int) ≤ (f.num : Int) + (f.recs.length : Int) := by omega
  have b2 : (f.num : Int) + (f.recs.length : Int) < 18446744073709551616 := by omega
  have b3 : (f.recs.length : Int) < 18446744073709551616 := by omega
  go_enter Tryz.func62, Tryz.ntmps62
  go_wp2
  go_quiet (fail)
  go_wp2
  go_ret
  exact ⟨by rw [← e.out]; rfl, below_drewN (Below.refl _ _) nq⟩

set_option maxHeartbeats 1000000 in
theorem last_any {k : Wk} {F : List Wf} {v : Value} {f : Wf} (w : World) (h : Wm w k (F ++ [f]) v) (hl : F.length < 9223372036854775807) :
    Calls Tryz.prog 53 #[.pointer (some ⟨k.g, 0, none⟩)] w fun e w' => e = .returned (.pointer (some ⟨f.g, 0, none⟩)) ∧ Below w.heap.size w w' := by
  obtain ⟨-, -, -, -, c4⟩ := cells5 h.blk
  have hlen : (ptrV (F ++ [f])).length = F.length + 1 := by simp [ptrV]
  obtain ⟨q, off, cap, hv, hc⟩ := h.row.cell (i := F.length) (by rw [hlen]; omega)
  have hx : (ptrV (F ++ [f]))[F.length]'(by rw [hlen]; omega) = .pointer (some ⟨f.g, 0, none⟩) := by simp [ptrV]
  rw [hx] at hc
  rw [hv, hlen] at c4
  clear hx hlen hv
  have e1 : ((F.length + 1 : Nat) : Int) - 1 = (F.length : Int) := by omega
  have E1 : Hid (((F.length + 1 : Nat) : Int) - 1 = (F.length : Int)) := e1
  clear e1
  go_enter Tryz.func53, Tryz.ntmps53
  go_wp2
  go_quiet (fail)
  go_wp2
  go_ret
  exact ⟨rfl, below_drewN (Below.refl _ _) nq⟩

/-- The number with which a log goes on. -/
def fstF (F : List (Nat × List (List UInt8))) : Nat := match F with | [] => 1 | x :: _ => x.1
def nxtF (F : List (Nat × List (List UInt8))) : Nat := match F.getLast? with | none => 1 | some x => x.1 + x.2.length
theorem snoc_cases {α : Type} (l : List α) : l = [] ∨ ∃ r x, l = r ++ [x] := by
  rcases List.eq_nil_or_concat l with h | ⟨r, x, h⟩
  · exact Or.inl h
  · exact Or.inr ⟨r, x, by rw [h, List.concat_eq_append]⟩
theorem nxt_snoc (F : List Wf) (f : Wf) : nxtF (Pw (F ++ [f])) = f.num + f.recs.length := by simp [nxtF, Pw, pw]

set_option maxHeartbeats 1000000 in
theorem First_any {k : Wk} {F : List Wf} {v : Value} (w : World) (h : Wm w k F v) :
    Calls Tryz.prog 26 #[.pointer (some ⟨k.g, 0, none⟩)] w fun e w' => e = .returned (.int .u64 (fstF (Pw F) : Int)) ∧ w' = w := by
  obtain ⟨-, -, -, -, c4⟩ := cells5 h.blk
  have hn := wnone_any w h
  cases F with
  | nil =>
    obtain ⟨q, cap, hv⟩ := h.row.len
    rw [hv] at c4
    go_enter Tryz.func26, Tryz.ntmps26
    go_wp2_with fail
    refine hn.mono ?_
    rintro e w1 ⟨rfl, rfl⟩
    go_wp2
    go_ret
    exact ⟨rfl, rfl⟩
  | cons f F =>
    obtain ⟨q, off, cap, hv, hc⟩ := h.row.cell (i := 0) (by simp [ptrV])
    have hx : (ptrV (f :: F))[0]'(by simp [ptrV]) = .pointer (some ⟨f.g, 0, none⟩) := by simp [ptrV]
    have hlen : (ptrV (f :: F)).length = F.length + 1 := by simp [ptrV]
    rw [hx, Nat.add_zero] at hc
    rw [hv, hlen] at c4
    obtain ⟨-, c1, -, -⟩ := cells4 (h.fl f (by simp)).blk
    clear hx hlen hv
    have g0 : ¬ (((F.length + 1 : Nat) : Int) = 0) := by omega
    go_enter Tryz.func26, Tryz.ntmps26
    go_wp2_with fail
    refine hn.mono ?_
    rintro e w1 ⟨rfl, rfl⟩
    go_wp2
    go_ret
    exact ⟨rfl, rfl⟩

set_option maxHeartbeats 1000000 in
theorem Next_any {k : Wk} {F : List Wf} {v : Value} (w : World) (h : Wm w k F v) (hl : F.length ≤ 9223372036854775807) (hf : nxtF (Pw F) < 18446744073709551616) :
    Calls Tryz.prog 28 #[.pointer (some ⟨k.g, 0, none⟩)] w fun e w' => e = .returned (.int .u64 (nxtF (Pw F) : Int)) ∧ Below w.heap.size w w' := by
  obtain ⟨-, -, -, -, c4⟩ := cells5 h.blk
  have hn := wnone_any w h
  rcases snoc_cases F with rfl | ⟨F, f, rfl⟩
  · obtain ⟨q, cap, hv⟩ := h.row.len
    rw [hv] at c4
    go_enter Tryz.func28, Tryz.ntmps28
    go_wp2_with fail
    refine hn.mono ?_
    rintro e w1 ⟨rfl, rfl⟩
    go_wp2
    go_ret
    exact ⟨rfl, Below.refl _ _⟩
  · rw [nxt_snoc] at hf ⊢
    obtain ⟨q, cap, hv⟩ := h.row.len
    have hlen : (ptrV (F ++ [f])).length = F.length + 1 := by simp [ptrV]
    rw [hv, hlen] at c4
    have hlast := last_any w h (by simp at hl; omega)
    have hwf := h.fl f (by simp)
    clear hlen hv
    have g0 : ¬ (((F.length + 1 : Nat) : Int) = 0) := by omega
    go_enter Tryz.func28, Tryz.ntmps28
    go_wp2_with fail
    refine hn.mono ?_
    rintro e w1 ⟨rfl, rfl⟩
    go_wp2_with fail
    refine hlast.mono ?_
    rintro e w1 ⟨rfl, hb1⟩
    go_wp2_with fail
    refine (fnext_any w1 (hwf.kept (hb1.block _ (Array.getElem?_eq_some_iff.1 hwf.blk).1) (fun i hi => hb1.block i (hwf.row.lt hi))) hf).mono ?_
    rintro e w2 ⟨rfl, hb2⟩
    go_wp2
    go_ret
    exact ⟨rfl, hb1.trans (hb2.mono hb1.size)⟩

set_option maxHeartbeats 1000000 in
theorem isNone_any {d m fr N : Nat} {L : List Fl} (w : World) (h : Dk w d m L fr N) :
    Calls Tryz.prog 37 #[.pointer (some ⟨d, 0, none⟩)] w fun e w' => e = .returned (.bool false) ∧ w' = w := by
  have hr := Read_any [] w h (by decide)
  have e0 : lk [] L = none := lk_eq_none fun f hf e => by
    have := (h.fl f hf).nm.1
    rw [e] at this
    simp at this
  rw [e0] at hr
  simp only [by_, fc] at hr
  go_enter Tryz.func37, Tryz.ntmps37
  go_wp2_with fail
  refine hr.mono ?_
  rintro e w1 ⟨rfl, rfl⟩
  go_wp2
  go_ret
  exact ⟨rfl, rfl⟩
set_option maxHeartbeats 1000000 in
theorem isNone_nil (w : World) : Calls Tryz.prog 37 #[.pointer none] w fun e w' => e = .returned (.bool true) ∧ w' = w := by
  go_enter Tryz.func37, Tryz.ntmps37
  go_wp2_with fail
  refine (Read_nil [] w).mono ?_
  rintro e w1 ⟨rfl, rfl⟩
  go_wp2
  go_ret
  exact ⟨rfl, rfl⟩

/-- A disk with its files as they are told: what a step makes of it. -/
structure PS (w w' : World) (d m : Nat) (L : List Fl) (fr N M : Nat) (P' : List F3) (t : Nat) : Prop where
  go : ∃ L' fr', Stp w w' d m L L' fr' (N + M) ∧ Pu L' = P' ∧ fr' + tot L' = fr + tot L ∧ tot L' ≤ tot L + t
theorem PS.of {w w' : World} {e : Ending} {d m : Nat} {L : List Fl} {fr N : Nat} {P' : List F3} {x : Int} {t : Nat} (h : PA w w' e d m L fr N P' x t) : PS w w' d m L fr N 1 P' t := ⟨h.go⟩

set_option maxHeartbeats 1000000 in
theorem removeIf_any {d m fr N : Nat} {L : List Fl} (s : List UInt8) (w : World) (h : Dk w d m L fr N) (hl : s.length ≤ maxLen) (hfit : fr + tot L ≤ 9223372036854775807) :
    Calls Tryz.prog 38 #[.pointer (some ⟨d, 0, none⟩), .string (bstr s)] w fun e w' => PA w w' e d m L fr N (wtoP s (Pu L)) 0 0 := by
  have hr := Rem_all s 0 w h hl hfit
  cases hi : isP s (Pu L) with
  | true =>
    have e1 : rmA s (Pu L) = (wtoP s (Pu L), 0) := by simp [rmA, hi]
    rw [e1] at hr
    go_enter Tryz.func38, Tryz.ntmps38
    go_wp2_with fail
    refine hr.mono ?_
    rintro e w1 ⟨rfl, hgo⟩
    go_wp2
    go_ret
    exact ⟨rfl, hgo⟩
  | false =>
    have e1 : rmA s (Pu L) = (Pu L, 5) := by simp [rmA, hi]
    have e2 : wtoP s (Pu L) = Pu L := wtoP_none (by
      have : (lkP s (Pu L)).isSome = false := hi
      simpa using this)
    rw [e1] at hr
    rw [e2]
    clear e2
    go_enter Tryz.func38, Tryz.ntmps38
    go_wp2_with fail
    refine hr.mono ?_
    rintro e w1 ⟨rfl, hgo⟩
    go_wp2
    go_ret
    exact ⟨rfl, hgo⟩

end Go.Proofs.YtpldfakfgngaaaaGreatDoor

namespace Go.Proofs.YtpldfakfgngaaaaGreatDoor
open Go.RowKit
attribute [local go_sem] size_bstr toList_bstr append_bstr

/-- The two boxes of the closure. -/
structure Bx (w : World) (d ca cb : Nat) (s : List UInt8) : Prop where
  ca : w.heap[ca]? = some (.cells #[.pointer (some ⟨d, 0, none⟩)] 26 (0, 0))
  cb : w.heap[cb]? = some (.cells #[.string (bstr s)] 9 (0, 0))
theorem Bx.disk {w w' : World} {d ca cb : Nat} {s : List UInt8} (h : Bx w d ca cb s) {e m fr N fr' N' : Nat} {L L' : List Fl} (hD : Dk w e m L fr N) (hk : Stp w w' e m L L' fr' N') : Bx w' d ca cb s :=
  ⟨(hk.kp.block _ (Array.getElem?_eq_some_iff.1 h.ca).1 (hD.other h.ca (by decide))).trans h.ca, (hk.kp.block _ (Array.getElem?_eq_some_iff.1 h.cb).1 (hD.other h.cb (by decide))).trans h.cb⟩
theorem Bx.cells {w : World} {d ca cb : Nat} {s : List UInt8} (h : Bx w d ca cb s) : w.cell? ⟨ca, 0, none⟩ = some (.pointer (some ⟨d, 0, none⟩)) ∧ w.cell? ⟨cb, 0, none⟩ = some (.string (bstr s)) := ⟨cells1 h.ca, cells1 h.cb⟩
/-- Some steps of the program: they answer x, and the files are P' behind them. -/
structure PB (w w' : World) (e : Ending) (d m : Nat) (L : List Fl) (fr N M : Nat) (P' : List F3) (x : Int) (t : Nat) : Prop where
  out : e = .returned (.int .i64 x)
  go : ∃ L' fr', Stp w w' d m L L' fr' (N + M) ∧ Pu L' = P' ∧ fr' + tot L' = fr + tot L ∧ tot L' ≤ tot L + t
theorem Stp.more {w w' : World} {d m : Nat} {L L' : List Fl} {x y y' : Nat} (h : Stp w w' d m L L' x y) (hy : y ≤ y') : Stp w w' d m L L' x y' := ⟨h.dk.mono hy, h.kp, h.ft⟩
/-- What becomes of the files when one is written anew. -/
def anA (R : Nat) (s n b : List UInt8) (P : List F3) : List F3 × Int := if R - totP (wtoP s P) < b.length then (wtoP s P, 7) else (wthP (n, b, b.length) (wtoP s P), 0)
theorem ofP_wto (s : List UInt8) (P : List F3) : ofP s (wtoP s P) = ([], [], 0) := by rw [ofP_lk, lkP_wto_same]; rfl
theorem isP_wth {f : F3} {P : List F3} (h : SrtP P) : isP f.1 (wthP f P) = true := by rw [isP_lk, lkP_wth_same h]; rfl
theorem ofP_wth {f : F3} {P : List F3} (h : SrtP P) : ofP f.1 (wthP f P) = f := by rw [ofP_lk, lkP_wth_same h]; rfl
theorem wto_wth2 {s : List UInt8} {a b : F3} {P : List F3} (h : SrtP P) (ha : a.1 = s) (hb : b.1 = s) (hs : lkP s P = none) : wtoP s (wthP a (wthP b P)) = P := by
  refine srtP_ext (wtoP_srt (wthP_srt (wthP_srt h))) h fun x => ?_
  rw [wtoP_mem, wthP_mem (wthP_srt h), wthP_mem h]
  constructor
  · rintro ⟨rfl | ⟨rfl | ⟨hx, _⟩, _⟩, hn⟩
    · exact absurd ha hn
    · exact absurd hb hn
    · exact hx
  · intro hx
    have := lkP_none hs x hx
    exact ⟨Or.inr ⟨Or.inr ⟨hx, by rw [hb]; exact this⟩, by rw [ha]; exact this⟩, this⟩

set_option maxHeartbeats 2000000 in
theorem anew_any {d m fr N ca cb : Nat} {L : List Fl} (s n b : List UInt8) (w : World) (h : Dk w d m L fr N) (hx : Bx w d ca cb s) (hs : okN s = true) (hn : okN n = true) (hfit : fr + tot L ≤ 9223372036854775807) (hb : tot L + b.length ≤ 140737488355328) (hN : N + 4 < maxLen) :
    Calls Tryz.prog 73 #[.string (bstr n), .string (bstr b), .pointer (some ⟨ca, 0, none⟩), .pointer (some ⟨cb, 0, none⟩)] w fun e w' => PB w w' e d m L fr N 4 (anA (fr + tot L) s n b (Pu L)).1 (anA (fr + tot L) s n b (Pu L)).2 b.length := by
  have hsl : s.length ≤ maxLen := by
    have : 0 < s.length ∧ s.length ≤ 64 := by simpa [okN] using hs
    unfold maxLen; omega
  have hP := Pu_srt h.srt
  obtain ⟨c1, c2⟩ := hx.cells
  have hrm := removeIf_any s w h hsl hfit
  obtain ⟨Z, hZ⟩ : ∃ Z, Z = anA (fr + tot L) s n b (Pu L) := ⟨_, rfl⟩
  rw [← hZ]
  have HZ : Hid (Z = anA (fr + tot L) s n b (Pu L)) := hZ
  clear hZ
  go_enter Tryz.func73, Tryz.ntmps73
  go_wp2_with fail
  refine hrm.mono ?_
  rintro e w1 ⟨rfl, L1, fr1, S1, P1, R1, T1⟩
  have x1 := hx.disk h S1
  obtain ⟨d1, d2⟩ := x1.cells
  have hap := App_all s b w1 S1.dk (by omega) (by omega) (by omega)
  rw [R1, P1] at hap
  by_cases hf : fr + tot L - totP (wtoP s (Pu L)) < b.length
  · rw [apA_full hs hf] at hap
    clear c1 c2 hrm
    go_wp2_with fail
    refine hap.mono ?_
    rintro e w2 ⟨rfl, L2, fr2, S2, P2, R2, T2⟩
    go_wp2
    go_ret
    obtain rfl : Z = (wtoP s (Pu L), 7) := by rw [HZ.out]; simp [anA, hf]
    exact ⟨rfl, L2, fr2, (S1.trans S2).more (by omega), P2, by omega, by omega⟩
  · rw [apA_ok hs hf, ofP_wto] at hap
    simp only [List.nil_append] at hap
    clear c1 c2 hrm
    go_wp2_with fail
    refine hap.mono ?_
    rintro e w2 ⟨rfl, L2, fr2, S2, P2, R2, T2⟩
    have x2 := x1.disk S1.dk S2
    obtain ⟨e1, e2⟩ := x2.cells
    have hsy := Syn_all s 0 w2 S2.dk hsl
    have i2 : isP s (wthP (s, b, 0) (wtoP s (Pu L))) = true := isP_wth (f := (s, b, 0)) (wtoP_srt hP)
    have o2 : ofP s (wthP (s, b, 0) (wtoP s (Pu L))) = (s, b, 0) := ofP_wth (f := (s, b, 0)) (wtoP_srt hP)
    rw [P2] at hsy
    simp only [syA, i2, o2, if_true] at hsy
    clear d1 d2 hap
    go_wp2_with fail
    refine hsy.mono ?_
    rintro e w3 ⟨rfl, L3, fr3, S3, P3, R3, T3⟩
    have x3 := x2.disk S2.dk S3
    obtain ⟨f1, f2⟩ := x3.cells
    have hrn := Ren_all s n 0 w3 S3.dk hsl (by omega) (by omega)
    have hP2 : SrtP (wthP (s, b, 0) (wtoP s (Pu L))) := wthP_srt (wtoP_srt hP)
    have i3 : isP s (wthP (s, b, b.length) (wthP (s, b, 0) (wtoP s (Pu L)))) = true := isP_wth (f := (s, b, b.length)) hP2
    have o3 : ofP s (wthP (s, b, b.length) (wthP (s, b, 0) (wtoP s (Pu L)))) = (s, b, b.length) := ofP_wth (f := (s, b, b.length)) hP2
    have w3 : wtoP s (wthP (s, b, b.length) (wthP (s, b, 0) (wtoP s (Pu L)))) = wtoP s (Pu L) := wto_wth2 (wtoP_srt hP) rfl rfl (lkP_wto_same _ _)
    rw [P3] at hrn
    simp only [rnA, i3, o3, hn, w3, if_true] at hrn
    clear e1 e2 hsy i2 o2 i3 o3 w3
    go_wp2_with fail
    refine hrn.mono ?_
    rintro e w4 ⟨rfl, L4, fr4, S4, P4, R4, T4⟩
    go_wp2
    go_ret
    obtain rfl : Z = (wthP (n, b, b.length) (wtoP s (Pu L)), 0) := by rw [HZ.out]; simp [anA, hf]
    exact ⟨rfl, L4, fr4, (((S1.trans S2).trans S3).trans S4).more (by omega), P4, by omega, by omega⟩

set_option maxHeartbeats 1000000 in
theorem writeAnew_any (d : Nat) (s : List UInt8) (w : World) :
    Calls Tryz.prog 40 #[.pointer (some ⟨d, 0, none⟩), .string (bstr s)] w fun e w' => e = .returned (.func (.func 73) #[] #[.pointer (some ⟨w.heap.size, 0, none⟩), .pointer (some ⟨w.heap.size + 1, 0, none⟩)]) ∧ Bx w' d w.heap.size (w.heap.size + 1) s ∧ Below w.heap.size w w' ∧ w'.heap.size = w.heap.size + 2 := by
  have hmf : ∀ (fn : Fn) (first cap : Array Value) (w : World), (Instr.makeFunc fn first cap).run Tryz.prog w = .ok (.func fn first cap) w := fun _ _ _ _ => rfl
  go_enter Tryz.func40, Tryz.ntmps40
  go_wp2
  go_ret
  refine ⟨by simp, ⟨?_, ?_⟩, ((Below.refl _ _).alloc (Nat.le_refl _) _).alloc (by simp) _, by simp⟩
  · rw [heap_alloc_old _ _ (by simp)]
    exact heap_alloc_new w _
  · have := heap_alloc_new (w.alloc (.cells #[.pointer (some ⟨d, 0, none⟩)] 26)) (.cells #[.string (bstr s)] 9)
    simpa using this

end Go.Proofs.YtpldfakfgngaaaaGreatDoor

