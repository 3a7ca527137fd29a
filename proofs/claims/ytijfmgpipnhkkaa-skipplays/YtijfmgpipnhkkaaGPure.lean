/-
  A row of one-cell values that lies in a part of a block: what stands there; one value appended; its last one given up, its first one given up.
-/
import Derived.Test.YtijfmgpipnhkkaaDFn
import Derived.ArgAppend
import Derived.Deep.AppendLies
namespace Go.Proofs.Ytijfmgpipnhkkaa
open Go.RowKit

/-- The values xs stand where v says. -/
def Rw (w : World) (e : TypeId) (v : Value) (xs : List Value) : Prop :=
  (v = .slice none 0 0 ∧ xs = []) ∨ ∃ g off cap cur, v = .slice (some ⟨g, off, none⟩) xs.length cap ∧ w.heap[g]? = some (.cells cur e (0, 0)) ∧ xs.length ≤ cap ∧ off + cap ≤ cur.size ∧ ∀ i (h : i < xs.length), cur[off + i]? = some xs[i]
theorem Rw.len {w : World} {e : TypeId} {v : Value} {xs : List Value} (h : Rw w e v xs) : ∃ q cap, v = .slice q xs.length cap := by
  rcases h with ⟨rfl, rfl⟩ | ⟨g, off, cap, cur, rfl, _⟩
  · exact ⟨none, 0, rfl⟩
  · exact ⟨_, _, rfl⟩
theorem Rw.kept {w w' : World} {e : TypeId} {v : Value} {xs : List Value} (h : Rw w e v xs) (hb : ∀ i, v.ownBlock = some i → w'.heap[i]? = w.heap[i]?) : Rw w' e v xs := by
  rcases h with h | ⟨g, off, cap, cur, rfl, hg, h1, h2, h3⟩
  · exact Or.inl h
  · exact Or.inr ⟨g, off, cap, cur, rfl, (hb g rfl).trans hg, h1, h2, h3⟩
theorem Rw.blk {w : World} {e : TypeId} {v : Value} {xs : List Value} (h : Rw w e v xs) {i : Nat} (hi : v.ownBlock = some i) : ∃ cur, w.heap[i]? = some (.cells cur e (0, 0)) := by
  rcases h with ⟨rfl, _⟩ | ⟨g, off, cap, cur, rfl, hg, _⟩
  · cases hi
  · cases hi; exact ⟨cur, hg⟩
theorem Rw.lt {w : World} {e : TypeId} {v : Value} {xs : List Value} (h : Rw w e v xs) {i : Nat} (hi : v.ownBlock = some i) : i < w.heap.size := by
  obtain ⟨cur, hc⟩ := h.blk hi
  exact (Array.getElem?_eq_some_iff.1 hc).1
theorem Rw.of_own {w : World} {B : Nat} {e : TypeId} {v : Value} {xs : List Value} (h : w.ownsRow B e 1 v xs.length xs) : Rw w e v xs := by
  rcases h.2 with ⟨rfl, h0⟩ | ⟨g, cap, cur, rfl, _, hg, hnc, _, hcs, htk⟩
  · exact Or.inl ⟨rfl, List.eq_nil_of_length_eq_zero h0⟩
  · refine Or.inr ⟨g, 0, cap, cur, rfl, hg, hnc, by omega, fun i hi => ?_⟩
    rw [Nat.mul_one] at htk
    have : xs[i]? = cur.toList[i]? := by rw [← htk, List.getElem?_take, if_pos hi]
    rw [List.getElem?_eq_getElem hi] at this
    rw [Nat.zero_add, this, Array.getElem?_toList]
theorem Rw.cell {w : World} {e : TypeId} {v : Value} {xs : List Value} (h : Rw w e v xs) {i : Nat} (hi : i < xs.length) : ∃ g off cap, v = .slice (some ⟨g, off, none⟩) xs.length cap ∧ w.cell? ⟨g, off + i, none⟩ = some xs[i] := by
  rcases h with ⟨rfl, rfl⟩ | ⟨g, off, cap, cur, rfl, hg, _, _, h3⟩
  · simp at hi
  · exact ⟨g, off, cap, rfl, by rw [cell_of_row w g (off + i) cur e _ hg]; exact h3 i hi⟩
/-- One value appended. -/
theorem rw_append {P : Program} {w : World} {t ty e : TypeId} {i : TypeInfo} {z : Value} {bytes : Nat} (ht : P.underlying t = some (.slice e)) (hi : P.info? e = some i) (hz : i.zero = some z) (hsize : i.size = 1) (hby : i.bytes = bytes) (hzs : z.cells.size = 1)
    {v : Value} {xs : List Value} (h : Rw w e v xs) (x : Value) (h1 : x.oneCell' = true) (ad : Addr) (c : Nat) (hx : w.cell? ad = some x) (hl : xs.length + 1 ≤ maxLen) (hb : (xs.length + 1) * bytes ≤ 140737488355328) :
    ∃ v' w', (Builtin.append_ #[t, t] ty #[v, .slice (some ad) 1 c]).run P w = .ok v' w' ∧ Rw w' e v' (xs ++ [x]) ∧ w.grownBy w' v.ownBlock ∧ (v'.ownBlock = v.ownBlock ∨ v'.ownBlock = some w.heap.size) := by
  have hn1 : ([x] : List Value).length = 1 * i.size := by rw [hsize]; rfl
  have hnews : ∀ j u, ([x] : List Value)[j]? = some u → w.cell? (ad.add j) = some u := by
    intro j u hj
    cases j with
    | zero => simp at hj; subst hj; rw [show ad.add 0 = ad by unfold Addr.add; split <;> simp_all]; exact hx
    | succ j => simp at hj
  have fresh : ∀ (v' : Value) (w' : World), w'.ownsRow w.heap.size e 1 v' (xs.length + 1) (xs ++ [x]) → w.grownBy w' none → Rw w' e v' (xs ++ [x]) ∧ w.grownBy w' v.ownBlock := fun v' w' ho hg => by
    refine ⟨Rw.of_own (B := w.heap.size) (by rw [List.length_append]; exact ho), ⟨hg.os, hg.tape, hg.output, hg.size, fun k hk _ => hg.block k hk (by simp)⟩⟩
  rcases h with ⟨rfl, rfl⟩ | ⟨g, off, cap, cur, rfl, hg, hnc, hcs, hx3⟩
  · have hfit : 1 * i.bytes ≤ 281474976710656 := by rw [hby]; simp at hb; omega
    have hr := run_append_nil (P := P) w t ty e i z ht hi hz ad 1 c [x] hn1 hnews (by omega) (by omega) hfit
    have hge := grownCap_ge w 1 0 e
    refine ⟨_, _, hr, Or.inr ⟨w.heap.size, 0, _, _, rfl, heap_alloc_new w.drew _, by simpa using hge, ?_, fun j hj => ?_⟩, ⟨rfl, rfl, rfl, by simp, fun k hk _ => heap_alloc_old w.drew _ hk⟩, Or.inr rfl⟩
    · simp only [Array.size_append, List.size_toArray, size_zeroCells, hzs, List.length_singleton]; omega
    · have : j = 0 := by simpa using hj
      subst this
      show ((#[x] : Array Value) ++ _)[0]? = _
      rw [Array.getElem?_append_left (by simp)]
      rfl
  · by_cases hroom : xs.length + 1 ≤ cap
    · have hc : ∀ j, j < ([x] : List Value).length → (w.cell? ⟨g, off + xs.length * i.size + j, none⟩).isSome = true := by
        intro j hj
        have : j = 0 := by simpa using hj
        subst this
        rw [hsize, cell_of_row w g _ cur e _ hg, Array.getElem?_eq_getElem (by omega)]; rfl
      have hf : ∀ j, j < ([x] : List Value).length → w.frozen? ⟨g, off + xs.length * i.size + j, none⟩ = false := by
        intro j _
        unfold World.frozen?
        rw [hg]
        simp
      have hr := run_append_room_cells (P := P) w t ty e i ht hi g off xs.length cap ad 1 c [x] hn1 hnews (by simpa using h1) hroom hc hf
      refine ⟨_, _, hr, Or.inr ⟨g, off, cap, _, by rw [List.length_append]; rfl, block_set hg _ _, by rw [List.length_append]; exact hroom, by rw [Array.size_setIfInBounds]; exact hcs, fun j hj => ?_⟩, grown_setCell _ _ _ _, Or.inl rfl⟩
      rw [hsize, Nat.mul_one]
      by_cases e1 : j = xs.length
      · subst e1
        rw [Array.getElem?_setIfInBounds_self_of_lt (by omega)]
        simp
      · have hj' : j < xs.length := by rw [List.length_append, List.length_singleton] at hj; omega
        rw [Array.getElem?_setIfInBounds_ne (by omega), hx3 j hj', List.getElem_append_left hj']
    · obtain ⟨v', w', hr, ho, hgr⟩ := run_append_arg_grows (P := P) w t ty e i z 1 bytes ht hi hz hsize hby hzs (by decide) ⟨g, off, none⟩ xs.length cap xs (by omega) (fun j u hj => by
        have hlt : j < xs.length := by
          rcases Nat.lt_or_ge j xs.length with a | a
          · exact a
          · rw [List.getElem?_eq_none a] at hj; cases hj
        rw [List.getElem?_eq_getElem hlt] at hj
        rw [Addr.add_lit, cell_of_row w g (off + j) cur e _ hg, hx3 j hlt]; exact hj) ad 1 c [x] (by rfl) hnews (by omega) hl hb
      obtain ⟨a1, a2⟩ := fresh v' w' ho hgr
      refine ⟨v', w', hr, a1, a2, ?_⟩
      rcases ho.2 with ⟨_, h0⟩ | ⟨g', cap', cur', rfl, hB, hg', _⟩
      · omega
      · right
        show some g' = some w.heap.size
        congr 1
        have hr2 := run_append_grow (P := P) w t ty e i z ht hi hz ⟨g, off, none⟩ xs.length cap xs (by rw [hsize]; omega) (fun j u hj => by
          have hlt : j < xs.length := by
            rcases Nat.lt_or_ge j xs.length with a | a
            · exact a
            · rw [List.getElem?_eq_none a] at hj; cases hj
          rw [List.getElem?_eq_getElem hlt] at hj
          rw [Addr.add_lit, cell_of_row w g (off + j) cur e _ hg, hx3 j hlt]; exact hj) ad 1 c [x] hn1 hnews (by omega) (by unfold maxLen at hl; omega) (by rw [hby]; exact growslice_fits (by omega) hb)
        rw [hr] at hr2
        cases hr2
        rfl
theorem wpList_app_rw {P : Program} {w : World} {ops : Array Oper} {rest : List Oper} {o : Oper} {a : Act} {Q : Exit → Act → World → Prop} (hgd : o.guard = none) (s x : Operand) (t : TypeId)
    (ho : o.op = .call { callee := .builtin .append, args := #[s, x], argTypes := #[t, t] }) (e : TypeId) (i : TypeInfo) (z : Value) (bytes : Nat) (ht : P.underlying t = some (.slice e)) (hi : P.info? e = some i) (hz : i.zero = some z) (hsize : i.size = 1) (hby : i.bytes = bytes) (hzs : z.cells.size = 1)
    (v : Value) (xs : List Value) (hs : a.eval s = v) (h : Rw w e v xs) (y : Value) (h1 : y.oneCell' = true) (ad : Addr) (c : Nat) (hx : a.eval x = .slice (some ad) 1 c) (hc : w.cell? ad = some y) (hl : xs.length + 1 ≤ maxLen) (hb : (xs.length + 1) * bytes ≤ 140737488355328)
    (hK : ∀ v' w', Rw w' e v' (xs ++ [y]) → w.grownBy w' v.ownBlock → (v'.ownBlock = v.ownBlock ∨ v'.ownBlock = some w.heap.size) → wpList P ops Q rest (a.put o.dst v') w') : wpList P ops Q (o :: rest) a w := by
  obtain ⟨v', w', hr, k1, k2, k3⟩ := rw_append (P := P) (ty := o.type) ht hi hz hsize hby hzs h y h1 ad c hc hl hb
  refine wpList_plain hgd fun K hK' => ?_
  unfold Oper.wp
  simp [execOp, ho, resolve, invoke, builtin, hs, hx, hr, Result.andThen]
  exact hK' _ _ (hK v' w' k1 k2 k3)
theorem step_app_rw {P : Program} {w : World} {ops : Array Oper} {o : Oper} {a : Act} {K : Act → World → Prop} {Q : Exit → Act → World → Prop} {E : Prop} (hgd : o.guard = none) (s x : Operand) (t : TypeId)
    (ho : o.op = .call { callee := .builtin .append, args := #[s, x], argTypes := #[t, t] }) (e : TypeId) (i : TypeInfo) (z : Value) (bytes : Nat) (ht : P.underlying t = some (.slice e)) (hi : P.info? e = some i) (hz : i.zero = some z) (hsize : i.size = 1) (hby : i.bytes = bytes) (hzs : z.cells.size = 1)
    (v : Value) (xs : List Value) (hs : a.eval s = v) (h : Rw w e v xs) (y : Value) (h1 : y.oneCell' = true) (ad : Addr) (c : Nat) (hx : a.eval x = .slice (some ad) 1 c) (hc : w.cell? ad = some y) (hl : xs.length + 1 ≤ maxLen) (hb : (xs.length + 1) * bytes ≤ 140737488355328)
    (hK : ∀ v' w', Rw w' e v' (xs ++ [y]) → w.grownBy w' v.ownBlock → (v'.ownBlock = v.ownBlock ∨ v'.ownBlock = some w.heap.size) → K (a.put o.dst v') w') :
    if Region.wanted o (yielded ops a.tmps) = true then Oper.wp P o a w K Q else E := by
  have hw : Region.wanted o (yielded ops a.tmps) = true := by simp [Region.wanted, hgd]
  rw [if_pos hw]
  obtain ⟨v', w', hr, k1, k2, k3⟩ := rw_append (P := P) (ty := o.type) ht hi hz hsize hby hzs h y h1 ad c hc hl hb
  unfold Oper.wp
  simp [execOp, ho, resolve, invoke, builtin, hs, hx, hr, Result.andThen]
  exact hK v' w' k1 k2 k3

end Go.Proofs.Ytijfmgpipnhkkaa

