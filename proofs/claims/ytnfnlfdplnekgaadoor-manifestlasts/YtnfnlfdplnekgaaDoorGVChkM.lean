/-
  A map of numbers that tells which there were.
  A drawn region inside a round of a range, its cells held: what calls nothing and defers nothing goes there as it goes outside.
  A state that may be; the numbers of the files that were told.
-/
import Derived.Test.YtnfnlfdplnekgaaDoorGVLay
import Derived.Maps.Own
import Derived.Maps.OwnSet
import Derived.Sort.BigQuietIn
import Derived.Test.YtnfnlfdplnekgaaDoorVTel
namespace Go.Proofs.YtnfnlfdplnekgaaDoor
open Go.RowKit Go.Maps

theorem keyU : Keyed Tryd.prog 25 := Maps.int_keyed Tryd.underlying25
theorem key_u {k : Nat} (h : k < 18446744073709551616) : keyOf Tryd.prog 25 (.int .u64 (k : Int)) = some (.int .u64 (k : Int)) :=
  Maps.keyOf_int_mk Tryd.underlying25 (WalkArith.wf_u64 (by omega))
/-- A map that holds just these numbers, each once. -/
structure MS (W : World) (m : Nat) (ids : List Nat) : Prop where
  out : ∃ n D, n ≤ ids.length ∧ W.ownsMap Tryd.prog 25 (unitElem (H := Unit)) m n D ∧ Maps.size D = ids.length ∧ ∀ k : Nat, k ∉ ids → Maps.has D (.int .u64 (k : Int)) = false
theorem MS.made (w : World) : MS (w.alloc (.map #[] 0)) w.heap.size [] :=
  ⟨0, _, Nat.le_refl _, World.ownsMap_made w _ _ _, rfl, fun _ _ => rfl⟩
theorem MS.lt {w : World} {m : Nat} {ids : List Nat} (h : MS w m ids) : m < w.heap.size := by
  obtain ⟨n, D, _, h2, _⟩ := h.out
  exact h2.lt
theorem MS.kept {w w' : World} {m : Nat} {ids : List Nat} (h : MS w m ids) (hk : w'.heap[m]? = w.heap[m]?) : MS w' m ids := by
  obtain ⟨n, D, h1, h2, h3⟩ := h.out
  refine ⟨n, D, h1, ?_, h3⟩
  obtain ⟨es, clock, hb, r⟩ := h2
  exact ⟨es, clock, hk.trans hb, r⟩
theorem MS.store {w : World} {m : Nat} {ids : List Nat} (h : MS w m ids) {k : Nat} (hk : k ∉ ids) (hb : k < 18446744073709551616) (hn : ids.length < 1000000000) :
    ∃ w', (Instr.mapUpdate 94 (.map (some m)) (.int .u64 (k : Int)) (.agg #[])).run Tryd.prog w = .ok () w' ∧ MS w' m (ids ++ [k]) ∧ w.grownBy w' (some m) := by
  obtain ⟨n, D, h1, h2, h3, h4⟩ := h.out
  obtain ⟨w', hrun, r1, r2⟩ := h2.store keyU Tryd.underlying94 (by unfold maxLen; omega) (key_u hb) unitElem_mk
  refine ⟨w', hrun, ⟨n + 1, _, by simp; omega, r1, ?_, fun k' hk' => ?_⟩, ?_⟩
  · rw [size_put (h2.tidy keyU), h4 k hk, h3]
    simp
  · simp at hk'
    rw [has_put_other (by intro e; simp at e; omega)]
    exact h4 k' hk'.1
  · exact r2.grown
theorem MS.len {w : World} {m : Nat} {ids : List Nat} (h : MS w m ids) (ty : TypeId) : (Builtin.len_ #[94] ty #[.map (some m)]).run Tryd.prog w = .ok (.int .i64 (ids.length : Int)) w := by
  obtain ⟨n, D, h1, h2, h3, h4⟩ := h.out
  rw [h2.len Tryd.underlying94 ty, h3]

end Go.Proofs.YtnfnlfdplnekgaaDoor

namespace Go.Proofs.YtnfnlfdplnekgaaDoor
open Go.RowKit Go.BigFrame Go.Sort

section
variable {F : Fence} {n : Nat} {P : Program} {ops : Array Oper} {Q : Exit → Act → World → Prop} {md : Region.Mode}
def noDefer (o : Oper) : Bool := match o.op with
  | .defer _ => false
  | _ => true
theorem noDefer_ne {o : Oper} (h : noDefer o = true) : ∀ c, o.op ≠ .defer c := fun c e => by
  unfold noDefer at h
  rw [e] at h
  cases h
theorem uponIn_inRound {l : Nat} {o : Oper} {a : Act} {K : Act → World → Prop} (r : Result Next) (h : o.uponIn F n P a K Q r) : o.uponIn (F.inRound l) n P a K Q r := by
  cases r with
  | ok x w => cases x <;> exact h
  | halt x w => cases x <;> exact h
theorem wpOpIn_inRound {l : Nat} (hro : F.round = none) (hd : ∀ (i : Nat) (o : Oper), ops[i]? = some o → noDefer o = true) {i : Nat} {K : Act → World → Prop} {a : Act} {w : World} (h : wpOpIn F n P ops Q i K a w) : wpOpIn (F.inRound l) n P ops Q i K a w := by
  unfold wpOpIn at *
  cases ho : ops[i]? with
  | none => simpa [ho] using h
  | some o =>
    simp only [ho] at h ⊢
    split
    · rename_i hw
      simp only [hw, if_true] at h
      refine ⟨h.1, ?_⟩
      have h2 := h.2
      rw [hro, Oper.semAt_none] at h2
      rw [Fence.inRound_round, Oper.semAt_some l _ o (noDefer_ne (hd i o ho))]
      exact uponIn_inRound _ h2
    · rename_i hw
      simp only [hw] at h
      exact h
theorem wpAnyIn_inRound {l : Nat} (hro : F.round = none) (hd : ∀ (i : Nat) (o : Oper), ops[i]? = some o → noDefer o = true) : ∀ (fuel : Nat) (listed : Array Bool) (a : Act) (w : World), wpAnyIn F n P md ops Q fuel listed a w → wpAnyIn (F.inRound l) n P md ops Q fuel listed a w
  | 0, _, _, _, h => h
  | fuel + 1, _, _, _, h => ⟨h.1, fun i hi => wpOpIn_mono (fun a w => wpAnyIn_inRound hro hd fuel _ a w) (wpOpIn_inRound hro hd (h.2 i hi))⟩
theorem uponIn_wide {o : Oper} {a : Act} {K : Act → World → Prop} (r : Result Next) (h : o.upon P a K Q r) : o.uponIn Fence.wide n P a K Q r := by
  cases r with
  | ok x w =>
    cases x with
    | enter f args => exact ⟨fun h => (by cases h), callsIn_wide.2 h⟩
    | row row args =>
      refine ⟨fun h => (by cases h), fun c cs _ => ?_⟩
      obtain ⟨v, w', r, s⟩ := h c cs
      exact ⟨v, w', r, stepsIn_wide.2 s⟩
    | round => exact (h : False).elim
    | _ => exact h
  | halt x w => cases x <;> exact h
theorem wpOpIn_wide (hLO : ¬ LetsOut Q) {i : Nat} {K : Act → World → Prop} {a : Act} {w : World} (h : wpOp P ops Q i K a w) : wpOpIn Fence.wide n P ops Q i K a w := by
  unfold wpOp at h
  unfold wpOpIn
  cases ho : ops[i]? with
  | none => simpa [ho] using h
  | some o =>
    simp only [ho] at h ⊢
    split
    · rename_i hw
      simp only [hw, if_true] at h
      rcases h with h | h
      · refine ⟨fun _ _ => trivial, ?_⟩
        rw [show Fence.wide.round = none from rfl, Oper.semAt_none]
        exact uponIn_wide _ h
      · exact absurd h.2 hLO
    · rename_i hw
      simp only [hw] at h
      exact ⟨fun _ _ => trivial, h⟩
theorem wpAnyIn_wide (hLO : ¬ LetsOut Q) : ∀ (fuel : Nat) (listed : Array Bool) (a : Act) (w : World), wpAny P md ops Q fuel listed a w → wpAnyIn Fence.wide n P md ops Q fuel listed a w
  | 0, _, _, _, h => h
  | fuel + 1, _, _, _, h => ⟨h.1, fun i hi => wpOpIn_mono (fun a w => wpAnyIn_wide hLO fuel _ a w) (wpOpIn_wide hLO (h.2 i hi))⟩
/-- Only the way on. -/
def Nrm (Q : Exit → Act → World → Prop) : Exit → Act → World → Prop
  | .normal, a, w => Q .normal a w
  | _, _, _ => False
/-- One walk with S held serves every order, inside a round. -/
theorem held_round {l0 id : Nat} {a : Act} {w : World} {S : World → Prop} (hd : ops.toList.all noDefer = true) (hm : P.follows .mixedOrders = true) (hS : S w.drew)
    (h : S w.drew → wpAnyH P .any ops (Nrm Q) S ops.size (Array.replicate ops.size false) a w.drew) : (Code.region id ops true).wpIn (Fence.wide.inRound l0) n P Q a w := by
  have hd' : ∀ (i : Nat) (o : Oper), ops[i]? = some o → noDefer o = true := fun i o ho => by
    rw [← Array.getElem?_toList] at ho
    exact List.all_eq_true.1 hd o (List.mem_of_getElem? ho)
  have hLO : ¬ LetsOut (Nrm Q) := fun ⟨_, _, h⟩ => h
  refine wpIn_mono (Q := Nrm Q) (wpIn_region_any hm (wpAnyIn_inRound rfl hd' _ _ _ _ (wpAnyIn_wide hLO _ _ _ _ (wpAny_of_held _ _ _ _ (h hS))))) ?_
  intro e a w hq
  cases e with
  | normal => exact hq
  | _ => exact (hq : False).elim
end

section
variable {P : Program} {ops : Array Oper} {Q : Exit → Act → World → Prop} {md : Region.Mode} {S0 S1 : World → Prop} {st : Nat}
/-- Whatever order is picked from here on: S0 holds behind every operation, S1 as long as number st has not come up. -/
def wpAnyS (P : Program) (md : Region.Mode) (ops : Array Oper) (Q : Exit → Act → World → Prop) (S0 S1 : World → Prop) (st : Nat) : Nat → Array Bool → Act → World → Prop
  | 0, listed, a, w => Region.ready md ops listed = [] ∧ Q .normal a w
  | fuel + 1, listed, a, w =>
    (Region.ready md ops listed = [] → Q .normal a w) ∧
    ∀ i ∈ Region.ready md ops listed, wpOp P ops Q i (fun a' w' => (S0 w' ∧ ((listed.setIfInBounds i true).getD st true = false → S1 w')) ∧ wpAnyS P md ops Q S0 S1 st fuel (listed.setIfInBounds i true) a' w') a w
theorem wpAny_of_S : ∀ (fuel : Nat) (listed : Array Bool) (a : Act) (w : World), wpAnyS P md ops Q S0 S1 st fuel listed a w → wpAny P md ops Q fuel listed a w
  | 0, _, _, _, h => h
  | fuel + 1, _, _, _, h => ⟨h.1, fun i hi => wpOp_mono (fun a' w' h' => wpAny_of_S fuel _ a' w' h'.2) (h.2 i hi)⟩
theorem wpAnyS_first {S : World → Prop} {Inv : Array Bool → Prop} {i : Nat} {oi : Oper} {v : Value} (hi : ops[i]? = some oi) (hsel : ∀ (j : Nat) (o : Oper) cs b, ops[j]? = some o → o.op ≠ .select cs b)
    (hQ : ∀ c a w, Q (.panic c) (a.put oi.dst v) w → Q (.panic c) a w) (hst : i ≠ st) (hI : ∀ (j : Nat) (listed : Array Bool), Inv listed → j ∈ Region.ready md ops listed → j ≠ i → listed.getD i true = false → Inv (listed.setIfInBounds j true)) (hS : ∀ (listed : Array Bool) w, Inv listed → S0 w ∧ (listed.getD st true = false → S1 w) → S w) :
    ∀ (fuel : Nat) (listed : Array Bool) (a : Act) (w : World),
      (∀ j oj, ops[j]? = some oj → j ≠ i → listed.getD j true = false → (∀ e ∈ oj.after, Region.binds md e = true → e.on ≠ i) → oi.apart ops oj = true) →
      i ∈ Region.ready md ops listed → YieldsIf P ops S oi v a → S w → S0 w → (listed.getD st true = false → S1 w) → Inv listed →
      wpAnyS P md ops Q S0 S1 st fuel (listed.setIfInBounds i true) (a.put oi.dst v) w → wpAnyS P md ops Q S0 S1 st (fuel + 1) listed a w := by
  intro fuel
  induction fuel with
  | zero =>
    intro listed a w _ hr hy hSw h0 h1 hin H
    refine ⟨fun h => (by rw [h] at hr; cases hr), fun j hj => ?_⟩
    by_cases hji : j = i
    · subst hji; exact hy.wpOp hi hSw ⟨⟨h0, fun e => h1 (by rw [getD_set_ne true hst] at e; exact e)⟩, H⟩
    · have := ready_mono hj hji
      rw [H.1] at this
      cases this
  | succ fuel ih =>
    intro listed a w hfree hr hy hSw h0 h1 hin H
    refine ⟨fun h => (by rw [h] at hr; cases hr), fun j hj => ?_⟩
    by_cases hji : j = i
    · subst hji; exact hy.wpOp hi hSw ⟨⟨h0, fun e => h1 (by rw [getD_set_ne true hst] at e; exact e)⟩, H⟩
    · have hH := H.2 j (ready_mono hj hji)
      obtain ⟨hjun, oj, hoj, hall⟩ := mem_ready.1 hj
      have hiun := (mem_ready.1 hr).1
      have hnot : ∀ e ∈ oj.after, Region.binds md e = true → e.on ≠ i := fun e he hb heq => by
        have h1 := hall e he hb
        rw [heq] at h1
        rcases Nat.lt_or_ge i listed.size with h' | h'
        · simp [h'] at hiun h1; rw [hiun] at h1; cases h1
        · simp [Array.getElem?_eq_none h'] at h1
      have h2 := wpOp_putIf hoj (hfree j oj hoj hji hjun hnot) (fun cs b => hsel i oi cs b hi) (fun cs b => hsel j oj cs b hoj) hQ hy hH
      have hfree' : ∀ k ok, ops[k]? = some ok → k ≠ i → (listed.setIfInBounds j true).getD k true = false →
          (∀ e ∈ ok.after, Region.binds md e = true → e.on ≠ i) → oi.apart ops ok = true := fun k ok hk hki hun hno => by
        refine hfree k ok hk hki ?_ hno
        by_cases hjk : j = k
        · subst hjk; exact hjun
        · rw [getD_set_ne true hjk] at hun; exact hun
      refine wpOp_mono (fun a' w' h3 => ?_) h2
      have e3 : ((listed.setIfInBounds i true).setIfInBounds j true).getD st true = (listed.setIfInBounds j true).getD st true := by
        rw [Array.setIfInBounds_comm _ _ (Ne.symm hji), getD_set_ne true hst]
      have hT : S0 w' ∧ ((listed.setIfInBounds j true).getD st true = false → S1 w') := ⟨h3.2.1.1, fun e => h3.2.1.2 (by rw [e3]; exact e)⟩
      refine ⟨hT, ih (listed.setIfInBounds j true) a' w' hfree' (ready_mono hr (Ne.symm hji)) h3.1 (hS _ w' (hI j listed hin hj hji hiun) hT) hT.1 hT.2 (hI j listed hin hj hji hiun) ?_⟩
      rw [Array.setIfInBounds_comm _ _ hji]
      exact h3.2.2
/-- Take a number first that yields wherever S0 holds. -/
theorem wpAnyS_takeA {i : Nat} {oi : Oper} {v : Value} {fuel : Nat} {listed : Array Bool} {a : Act} {w : World} (hi : ops[i]? = some oi)
    (hs : Region.noSelect ops = true) (hf : Region.free md ops listed i = true) (hr : (Region.ready md ops listed).contains i = true) (hst : (i == st) = false)
    (hQ : ∀ c a w, Q (.panic c) (a.put oi.dst v) w → Q (.panic c) a w) (hy : YieldsIf P ops S0 oi v a) (h0 : S0 w) (h1 : listed.getD st true = false → S1 w)
    (h : wpAnyS P md ops Q S0 S1 st fuel (listed.setIfInBounds i true) (a.put oi.dst v) w) : wpAnyS P md ops Q S0 S1 st (fuel + 1) listed a w :=
  wpAnyS_first (S := S0) (Inv := fun _ => True) hi (Region.noSelect_spec hs) hQ (by simpa using hst) (fun _ _ _ _ _ _ => trivial) (fun _ _ _ h => h.1) fuel listed a w (Region.free_spec hi hf) (by simpa using hr) hy h0 h0 h1 trivial h
/-- Does number st wait for number i? -/
def waitsB (md : Region.Mode) (ops : Array Oper) (st i : Nat) : Bool := ((ops[st]?).map fun o => o.after.any fun e => Region.binds md e && e.on == i).getD false
theorem waitsB_spec {st i : Nat} (h : waitsB md ops st i = true) {listed : Array Bool} (hr : st ∈ Region.ready md ops listed) (hun : listed.getD i true = false) : False := by
  obtain ⟨_, o, ho, hall⟩ := mem_ready.1 hr
  unfold waitsB at h
  rw [ho] at h
  simp only [Option.map_some, Option.getD_some, Array.any_eq_true] at h
  obtain ⟨k, hk, he⟩ := h
  rw [Bool.and_eq_true, beq_iff_eq] at he
  have h1 := hall _ (Array.getElem_mem hk) he.1
  rw [he.2] at h1
  rcases Nat.lt_or_ge i listed.size with h' | h'
  · simp [h'] at hun h1; rw [hun] at h1; cases h1
  · simp [Array.getElem?_eq_none h'] at h1
/-- Take a number first that yields wherever S0 and S1 hold, and that the store waits for. -/
theorem wpAnyS_takeB {i : Nat} {oi : Oper} {v : Value} {fuel : Nat} {listed : Array Bool} {a : Act} {w : World} (hi : ops[i]? = some oi)
    (hs : Region.noSelect ops = true) (hf : Region.free md ops listed i = true) (hr : (Region.ready md ops listed).contains i = true) (hst : (i == st) = false) (hwt : waitsB md ops st i = true) (hun : (listed.getD st true == false) = true)
    (hQ : ∀ c a w, Q (.panic c) (a.put oi.dst v) w → Q (.panic c) a w) (hy : YieldsIf P ops (fun w => S0 w ∧ S1 w) oi v a) (h0 : S0 w) (h1 : S1 w)
    (h : wpAnyS P md ops Q S0 S1 st fuel (listed.setIfInBounds i true) (a.put oi.dst v) w) : wpAnyS P md ops Q S0 S1 st (fuel + 1) listed a w :=
  wpAnyS_first (S := fun w => S0 w ∧ S1 w) (Inv := fun L => L.getD st true = false) hi (Region.noSelect_spec hs) hQ (by simpa using hst)
    (fun j L hL hj hji hiu => by
      have hne : j ≠ st := fun e => waitsB_spec hwt (e ▸ hj) hiu
      rw [getD_set_ne true hne]
      exact hL)
    (fun L w hL h => ⟨h.1, h.2 hL⟩) fuel listed a w (Region.free_spec hi hf) (by simpa using hr) hy ⟨h0, h1⟩ h0 (fun _ => h1) (by simpa using hun) h
/-- Whichever of those that may come up comes up. -/
def AllS (P : Program) (md : Region.Mode) (ops : Array Oper) (Q : Exit → Act → World → Prop) (S0 S1 : World → Prop) (st fuel : Nat) (listed : Array Bool) (a : Act) (w : World) (rs : List Nat) : Prop :=
  ∀ i ∈ rs, wpOp P ops Q i (fun a' w' => (S0 w' ∧ ((listed.setIfInBounds i true).getD st true = false → S1 w')) ∧ wpAnyS P md ops Q S0 S1 st fuel (listed.setIfInBounds i true) a' w') a w
theorem AllS.nil {fuel : Nat} {listed : Array Bool} {a : Act} {w : World} : AllS P md ops Q S0 S1 st fuel listed a w [] := fun _ h => by cases h
theorem AllS.cons {fuel : Nat} {listed : Array Bool} {a : Act} {w : World} {i : Nat} {o : Oper} {rs : List Nat} (ho : ops[i]? = some o) (hw : Region.wanted o (yielded ops a.tmps) = true)
    (h : ∀ K' : Act → World → Prop, Shut (∀ a w, S0 w → ((listed.setIfInBounds i true).getD st true = false → S1 w) → wpAnyS P md ops Q S0 S1 st fuel (listed.setIfInBounds i true) a w → K' a w) → Oper.wp P o a w K' Q)
    (hs : AllS P md ops Q S0 S1 st fuel listed a w rs) : AllS P md ops Q S0 S1 st fuel listed a w (i :: rs) := fun j hj => by
  rcases List.mem_cons.1 hj with rfl | hj
  · unfold wpOp
    simp only [ho, hw, if_true]
    exact Or.inl (h _ (fun a w h0 h1 hW => ⟨⟨h0, h1⟩, hW⟩))
  · exact hs j hj
theorem wpAnyS_ready {rs : List Nat} {fuel : Nat} {listed : Array Bool} {a : Act} {w : World} (hr : Region.ready md ops listed = rs) (hne : rs ≠ [])
    (h : AllS P md ops Q S0 S1 st fuel listed a w rs) : wpAnyS P md ops Q S0 S1 st (fuel + 1) listed a w := ⟨fun h0 => absurd (hr ▸ h0) hne, hr ▸ h⟩
theorem wpAnyS_done {listed : Array Bool} {a : Act} {w : World} (hr : Region.ready md ops listed = []) (h : Q .normal a w) : ∀ fuel, wpAnyS P md ops Q S0 S1 st fuel listed a w
  | 0 => ⟨hr, h⟩
  | _ + 1 => ⟨fun _ => h, by rw [hr]; simp⟩
/-- The beginning, inside a round. -/
theorem sto_round {n l0 id : Nat} {a : Act} {w : World} (hd : ops.toList.all noDefer = true) (hm : P.follows .mixedOrders = true)
    (h : wpAnyS P .any ops (Nrm Q) S0 S1 st ops.size (Array.replicate ops.size false) a w.drew) : (Code.region id ops true).wpIn (Fence.wide.inRound l0) n P Q a w := by
  have hd' : ∀ (i : Nat) (o : Oper), ops[i]? = some o → noDefer o = true := fun i o ho => by
    rw [← Array.getElem?_toList] at ho
    exact List.all_eq_true.1 hd o (List.mem_of_getElem? ho)
  have hLO : ¬ LetsOut (Nrm Q) := fun ⟨_, _, h⟩ => h
  refine wpIn_mono (Q := Nrm Q) (wpIn_region_any hm (wpAnyIn_inRound rfl hd' _ _ _ _ (wpAnyIn_wide hLO _ _ _ _ (wpAny_of_S _ _ _ _ h)))) ?_
  intro e a w hq
  cases e with
  | normal => exact hq
  | _ => exact (hq : False).elim
end

end Go.Proofs.YtnfnlfdplnekgaaDoor

namespace Go.Proofs.YtnfnlfdplnekgaaDoor

/-- A text is not ahead of another one, as the model has '>='. -/
def geB (a b : List UInt8) : Bool := !(ls a b)
/-- A state that may be. -/
structure OkS (next log : Nat) (lv : List (List Fi)) : Prop where
  n : cntB next = true
  g : cntB log = true
  l : lv.length ≤ 7
  m : many lv ≤ 1024
  f : ∀ l ∈ lv, ∀ f ∈ l, mayF f = true ∧ f.id < next
  u : (lv.flatten.map Fi.id).Nodup
  a : ∀ (i : Nat) (l : List Fi) (t : Nat) (f f' : Fi), lv[i]? = some l → 0 < i → l[t]? = some f → l[t + 1]? = some f' → geB f.high f'.low = false
theorem cnt_lt {n : Nat} (h : cntB n = true) : 1 ≤ n ∧ n ≤ 1099511627776 := by
  simp only [cntB, Bool.and_eq_true, decide_eq_true_eq] at h
  exact h
theorem many_flat (lv : List (List Fi)) : many lv = lv.flatten.length := by
  unfold many
  rw [List.length_flatten]
theorem many_mem {lv : List (List Fi)} {l : List Fi} (h : l ∈ lv) : l.length ≤ many lv := by
  unfold many
  induction lv with
  | nil => cases h
  | cons a lv ih =>
    rw [List.map_cons, List.sum_cons]
    rcases List.mem_cons.1 h with rfl | h
    · omega
    · have := ih h
      omega
def tld (lv : List (List Fi)) (i t : Nat) : List Nat := ((lv.take i).flatten ++ ((lv[i]?).getD []).take t).map Fi.id
theorem tld_zero (lv : List (List Fi)) : tld lv 0 0 = [] := by simp [tld]
theorem tld_next {lv : List (List Fi)} {i : Nat} {l : List Fi} (h : lv[i]? = some l) : tld lv i l.length = tld lv (i + 1) 0 := by
  unfold tld
  rw [h, Option.getD_some, List.take_length, List.take_zero, List.append_nil, List.take_add_one, h]
  simp
theorem tld_succ {lv : List (List Fi)} {i t : Nat} {l : List Fi} {f : Fi} (h : lv[i]? = some l) (hf : l[t]? = some f) : tld lv i (t + 1) = tld lv i t ++ [f.id] := by
  unfold tld
  rw [h, Option.getD_some, List.take_add_one, hf]
  simp
theorem tld_end (lv : List (List Fi)) : tld lv lv.length 0 = lv.flatten.map Fi.id := by
  unfold tld
  simp
theorem tld_pre {lv : List (List Fi)} {i t : Nat} {l : List Fi} (h : lv[i]? = some l) : ∃ r, lv.flatten.map Fi.id = tld lv i t ++ r := by
  have hi : i < lv.length := (List.getElem?_eq_some_iff.1 h).1
  have e : lv[i] = l := (List.getElem?_eq_some_iff.1 h).2
  refine ⟨(l.drop t ++ (lv.drop (i + 1)).flatten).map Fi.id, ?_⟩
  unfold tld
  rw [h, Option.getD_some, ← List.map_append, List.append_assoc, ← List.append_assoc (l.take t), List.take_append_drop]
  congr 1
  conv => lhs; rw [← List.take_append_drop i lv, List.flatten_append, List.drop_eq_getElem_cons hi, List.flatten_cons, e]
theorem tld_fresh {lv : List (List Fi)} {i t : Nat} {l : List Fi} {f : Fi} (hu : (lv.flatten.map Fi.id).Nodup) (h : lv[i]? = some l) (hf : l[t]? = some f) : f.id ∉ tld lv i t := by
  obtain ⟨r, hr⟩ := tld_pre (t := t + 1) h
  rw [hr, tld_succ h hf] at hu
  have := (List.nodup_append.1 hu).1
  intro hm
  exact (List.nodup_append.1 this).2.2 _ hm _ (by simp) rfl
theorem tld_len {lv : List (List Fi)} {i t : Nat} {l : List Fi} (h : lv[i]? = some l) : (tld lv i t).length ≤ many lv := by
  obtain ⟨r, hr⟩ := tld_pre (t := t) h
  have := congrArg List.length hr
  rw [List.length_map, List.length_append] at this
  rw [many_flat]
  omega

end Go.Proofs.YtnfnlfdplnekgaaDoor
