/-
  Drawn regions that only make memory, whatever the order: what each operation yields is told by a predicate that lasts.
-/
import Derived.Orders
import Derived.Below
import Derived.KernelRfl
namespace Go.Proofs.YtmgibkglbddlpaaDoor
open Go.RowKit

section
variable {P : Program} {ops : Array Oper} {Q : Exit → Act → World → Prop}
theorem getD_lt {l : Array Bool} {j : Nat} (h : l.getD j true = false) : j < l.size ∧ l[j]? = some false := by
  rcases Nat.lt_or_ge j l.size with h1 | h1
  · refine ⟨h1, ?_⟩
    simp [Array.getD, h1] at h
    simp [h1, h]
  · simp [Array.getD, Nat.not_lt.2 h1] at h
theorem wpAny_inv (Inv : Array Bool → Act → World → Prop)
    (hstep : ∀ listed a w i, Inv listed a w → i ∈ Region.ready .any ops listed → wpOp P ops Q i (Inv (listed.setIfInBounds i true)) a w)
    (hend : ∀ listed a w, Inv listed a w → Region.ready .any ops listed = [] → Q .normal a w) :
    ∀ (fuel : Nat) (listed : Array Bool) (a : Act) (w : World), listed.toList.count false ≤ fuel → Inv listed a w → wpAny P .any ops Q fuel listed a w
  | 0, listed, a, w, hc, h => by
    have hr : Region.ready .any ops listed = [] := by
      apply List.eq_nil_iff_forall_not_mem.2
      intro j hj
      obtain ⟨h1, h2⟩ := getD_lt (mem_ready.1 hj).1
      have hm : false ∈ listed.toList := by
        rw [← Array.getElem?_toList] at h2
        exact List.mem_of_getElem? h2
      have := List.count_pos_iff.2 hm
      omega
    exact ⟨hr, hend listed a w h hr⟩
  | fuel + 1, listed, a, w, hc, h => by
    refine ⟨fun hr => hend _ _ _ h hr, fun i hi => wpOp_mono (fun a' w' h' => wpAny_inv Inv hstep hend fuel _ a' w' ?_ h') (hstep listed a w i h hi)⟩
    obtain ⟨h1, h2⟩ := getD_lt (mem_ready.1 hi).1
    have e : listed[i] = false := by simpa [h1] using h2
    have hm : false ∈ listed.toList := by
      rw [← Array.getElem?_toList] at h2
      exact List.mem_of_getElem? h2
    have hp := List.count_pos_iff.2 hm
    rw [Array.toList_setIfInBounds, List.count_set (by simpa using h1)]
    have e2 : (listed.toList[i]'(by simpa using h1)) = false := by simpa using e
    rw [e2]
    simp only [beq_self_eq_true, if_true]
    have : (true == false) = false := rfl
    rw [this]
    simp only [Bool.false_eq_true, if_false]
    omega

/-- One operation, wherever what it waits for is there. -/
def Loc (P : Program) (ops : Array Oper) (Q : Exit → Act → World → Prop) (R : Nat → Value → World → Prop) (w0 : World) (T0 : Array Value) (i : Nat) (o : Oper) : Prop :=
  ∀ (a : Act) (w : World) (K : Act → World → Prop), Below w0.heap.size w0 w → (∀ k, (ops.toList.all fun o => o.dst != some k) = true → a.tmps.getD k undef = T0.getD k undef) →
    (∀ e ∈ o.after, Region.binds .any e = true → ∀ o' k, ops[e.on]? = some o' → o'.dst = some k → R e.on (a.tmps.getD k undef) w) →
    (∀ v w', Below w.heap.size w w' → R i v w' → K (a.put o.dst v) w') → o.wp P a w K Q
def LocAll (P : Program) (ops : Array Oper) (Q : Exit → Act → World → Prop) (R : Nat → Value → World → Prop) (w0 : World) (T0 : Array Value) : Nat → List Oper → Prop
  | _, [] => True
  | i, o :: l => Loc P ops Q R w0 T0 i o ∧ LocAll P ops Q R w0 T0 (i + 1) l
theorem LocAll.at {R : Nat → Value → World → Prop} {w0 : World} {T0 : Array Value} : ∀ {l : List Oper} {i : Nat}, LocAll P ops Q R w0 T0 i l → ∀ j o, l[j]? = some o → Loc P ops Q R w0 T0 (i + j) o
  | [], _, _, _, _, h => by simp at h
  | x :: l, i, h, 0, o, ho => by
    obtain rfl : x = o := by simpa using ho
    exact h.1
  | x :: l, i, h, j + 1, o, ho => by
    have := LocAll.at h.2 j o (by simpa using ho)
    rwa [show i + (j + 1) = i + 1 + j from by omega]
/-- Each has a slot of its own, none is guarded, each waits only for such as stand ahead of it. -/
def growB (ops : Array Oper) (n : Nat) : Bool :=
  (ops.toList.all fun o => o.guard.isNone && (match o.dst with | some k => decide (k < n) | none => false)) && decide (ops.toList.map (·.dst)).Nodup &&
  (ops.toList.zipIdx.all fun x => x.1.after.all fun e => decide (e.on < x.2))

structure Gi (ops : Array Oper) (R : Nat → Value → World → Prop) (w0 : World) (T0 : Array Value) (D : List Deferred) (listed : Array Bool) (a : Act) (w : World) : Prop where
  sz : listed.size = ops.size
  bel : Below w0.heap.size w0 w
  df : a.defers = D
  ts : a.tmps.size = T0.size
  old : ∀ k, (ops.toList.all fun o => o.dst != some k) = true → a.tmps.getD k undef = T0.getD k undef
  new : ∀ j o k, ops[j]? = some o → o.dst = some k → listed.getD j false = true → R j (a.tmps.getD k undef) w

theorem getD_put {t : Array Value} {k : Nat} {v : Value} (h : k < t.size) : (t.setIfInBounds k v).getD k undef = v := by
  simp [Array.getD, h]
theorem getD_put_ne {t : Array Value} {k k' : Nat} {v : Value} (h : k ≠ k') : (t.setIfInBounds k v).getD k' undef = t.getD k' undef := by
  rw [Array.getD_eq_getD_getElem?, Array.getD_eq_getD_getElem?, Array.getElem?_setIfInBounds_ne h]
theorem wp_grow {id : Nat} {R : Nat → Value → World → Prop} {a : Act} {w : World} (hm : P.follows .mixedOrders = true) (hB : growB ops a.tmps.size = true)
    (hst : ∀ i v w w', R i v w → Below w.heap.size w w' → R i v w')
    (hl : LocAll P ops Q R w.drew a.tmps 0 ops.toList)
    (hend : ∀ a' w', Below w.drew.heap.size w.drew w' → a'.defers = a.defers → a'.tmps.size = a.tmps.size → (∀ k, (ops.toList.all fun o => o.dst != some k) = true → a'.tmps.getD k undef = a.tmps.getD k undef) →
      (∀ j o k, ops[j]? = some o → o.dst = some k → R j (a'.tmps.getD k undef) w') → Q .normal a' w') : (Code.region id ops true).wp P Q a w := by
  simp only [growB, Bool.and_eq_true, decide_eq_true_eq] at hB
  obtain ⟨⟨hg, hn⟩, ha⟩ := hB
  have hgo : ∀ (i : Nat) (o : Oper), ops[i]? = some o → o.guard = none ∧ ∃ k, o.dst = some k ∧ k < a.tmps.size := by
    intro i o ho
    rw [← Array.getElem?_toList] at ho
    have := List.all_eq_true.1 hg o (List.mem_of_getElem? ho)
    rw [Bool.and_eq_true] at this
    obtain ⟨h1, h2⟩ := this
    refine ⟨Option.isNone_iff_eq_none.1 h1, ?_⟩
    cases hd : o.dst with
    | none => rw [hd] at h2; simp at h2
    | some k => rw [hd] at h2; exact ⟨k, rfl, of_decide_eq_true h2⟩
  have hdist : ∀ (i j : Nat) (o o' : Oper) (k : Tmp), ops[i]? = some o → ops[j]? = some o' → o.dst = some k → o'.dst = some k → i = j := by
    intro i j o o' k ho ho' hk hk'
    rw [← Array.getElem?_toList] at ho ho'
    refine (List.getElem?_inj (l := ops.toList.map (·.dst)) (by rw [List.length_map]; exact (List.getElem?_eq_some_iff.1 ho).1) hn).1 ?_
    rw [List.getElem?_map, List.getElem?_map, ho, ho']
    simp [hk, hk']
  refine wp_region_any hm (wpAny_inv (Gi ops R w.drew a.tmps a.defers) ?_ ?_ ops.size _ a _ ?_ ?_)
  · intro listed a1 w1 i hI hi
    obtain ⟨h0, o, ho, hall⟩ := mem_ready.1 hi
    obtain ⟨hgd, k, hk, hkn⟩ := hgo i o ho
    have hw : Region.wanted o (yielded ops a1.tmps) = true := by
      simp [Region.wanted, hgd]
    have hL : Loc P ops Q R w.drew a.tmps i o := by
      have := LocAll.at hl i o (by rw [Array.getElem?_toList]; exact ho)
      rwa [Nat.zero_add] at this
    have hlt : i < listed.size := by rw [hI.sz]; exact (Array.getElem?_eq_some_iff.1 ho).1
    unfold wpOp
    simp only [ho, hw, if_true]
    refine Or.inl (hL a1 w1 _ hI.bel hI.old (fun e he hb o' k' ho' hk' => hI.new e.on o' k' ho' hk' (hall e he hb)) ?_)
    intro v w2 hb2 hR
    have hsz : k < a1.tmps.size := by rw [hI.ts]; exact hkn
    rw [hk]
    refine ⟨by simpa using hI.sz, hI.bel.trans (hb2.mono hI.bel.size), hI.df, by simpa [Act.put] using hI.ts, ?_, ?_⟩
    · intro k' hk'
      have hne : k ≠ k' := by
        rintro rfl
        rw [← Array.getElem?_toList] at ho
        have := List.all_eq_true.1 hk' o (List.mem_of_getElem? ho)
        rw [hk] at this
        simp at this
      show (a1.tmps.setIfInBounds k v).getD k' undef = _
      rw [getD_put_ne hne]
      exact hI.old k' hk'
    · intro j o' k' ho' hk' hlj
      show R j ((a1.tmps.setIfInBounds k v).getD k' undef) w2
      by_cases e : j = i
      · subst e
        obtain rfl : o = o' := by rw [ho] at ho'; exact Option.some.inj ho'
        obtain rfl : k = k' := by rw [hk] at hk'; exact Option.some.inj hk'
        rw [getD_put hsz]
        exact hR
      · have hne : k ≠ k' := by
          rintro rfl
          exact e (hdist j i o' o k ho' ho hk' hk)
        rw [getD_put_ne hne]
        have hlj' : listed.getD j false = true := by
          rw [Array.getD_eq_getD_getElem?, Array.getElem?_setIfInBounds_ne (fun h => e h.symm)] at hlj
          rw [Array.getD_eq_getD_getElem?]
          exact hlj
        exact hst j _ w1 w2 (hI.new j o' k' ho' hk' hlj') hb2
  · intro listed a1 w1 hI hr
    have hmin : ∀ n i, i < n → i < ops.size → listed.getD i false = true := by
      intro n
      induction n with
      | zero => intro i hi; omega
      | succ n ih =>
        intro i hi his
        cases hli : listed.getD i false with
        | true => rfl
        | false =>
          exfalso
          have hir : i ∈ Region.ready .any ops listed := by
            refine mem_ready.2 ⟨?_, ops[i], by simp [his], ?_⟩
            · have hls : i < listed.size := by rw [hI.sz]; exact his
              simp [Array.getD, hls] at hli ⊢
              exact hli
            · intro e he _
              have hz : (ops[i], i) ∈ ops.toList.zipIdx := by
                rw [List.mem_zipIdx_iff_getElem?, Array.getElem?_toList]
                simp [his]
              have h2 := List.all_eq_true.1 ha _ hz
              have h3 := of_decide_eq_true (Array.all_eq_true_iff_forall_mem.1 h2 e he)
              exact ih e.on (by simp only at h3; omega) (by simp only at h3; omega)
          rw [hr] at hir
          cases hir
    refine hend a1 w1 hI.bel hI.df hI.ts hI.old fun j o k ho hk => hI.new j o k ho hk ?_
    exact hmin (j + 1) j (by omega) (Array.getElem?_eq_some_iff.1 ho).1
  · simp
  · refine ⟨by simp, Below.refl _ _, rfl, rfl, fun _ _ => rfl, fun j o k ho hk hlj => ?_⟩
    rw [Array.getD_eq_getD_getElem?, Array.getElem?_replicate] at hlj
    split at hlj <;> simp at hlj
/-- A frame's slots, written out. -/
theorem arr_lit {t : Array Value} {n : Nat} (h : t.size = n) : t = ((List.range n).map fun k => t.getD k undef).toArray := by
  apply Array.ext
  · simp [h]
  · intro i h1 h2
    simp [Array.getD, h1]
end

end Go.Proofs.YtmgibkglbddlpaaDoor
