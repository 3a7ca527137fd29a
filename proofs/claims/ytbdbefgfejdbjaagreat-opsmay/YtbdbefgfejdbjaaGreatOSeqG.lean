/-
  The same with a ghost, which calls may tell anew.
-/
import Derived.Test.YtbdbefgfejdbjaaGreatOSeq
namespace Go.Proofs.YtbdbefgfejdbjaaGreat
open Go.RowKit

section
variable {Γ : Type} {P : Program} {ops : Array Oper} {Q : Exit → Act → World → Prop}
/-- An operation that leaves memory as it is; the m-th of those that follow one another. -/
def LocSG (P : Program) (ops : Array Oper) (Q : Exit → Act → World → Prop) (S : Γ → Nat → World → Prop) (R : Γ → Nat → Value → Prop) (T0 : Array Value) (i : Nat) (o : Oper) : Option Nat → Prop
  | none => ∀ (γ : Γ) (c : Nat) (a : Act) (w : World) (K : Act → World → Prop), S γ c w → Told ops (R γ) T0 o a → (∀ v, R γ i v → K (a.put o.dst v) w) → o.wp P a w K Q
  | some m => ∀ (γ : Γ) (a : Act) (w : World) (K : Act → World → Prop), S γ m w → Told ops (R γ) T0 o a → (∀ γ' v w', S γ' (m + 1) w' → (∀ j u, R γ j u → R γ' j u) → R γ' i v → K (a.put o.dst v) w') → o.wp P a w K Q
def LocSAllG (P : Program) (ops : Array Oper) (Q : Exit → Act → World → Prop) (S : Γ → Nat → World → Prop) (R : Γ → Nat → Value → Prop) (T0 : Array Value) (tm : List (Option Nat)) : Nat → List Oper → Prop
  | _, [] => True
  | i, o :: l => LocSG P ops Q S R T0 i o (tm.getD i none) ∧ LocSAllG P ops Q S R T0 tm (i + 1) l
theorem LocSAllG.at {S : Γ → Nat → World → Prop} {R : Γ → Nat → Value → Prop} {T0 : Array Value} {tm : List (Option Nat)} : ∀ {l : List Oper} {i : Nat}, LocSAllG P ops Q S R T0 tm i l → ∀ j o, l[j]? = some o → LocSG P ops Q S R T0 (i + j) o (tm.getD (i + j) none)
  | [], _, _, _, _, h => by simp at h
  | x :: l, i, h, 0, o, ho => by
    obtain rfl : x = o := by simpa using ho
    exact h.1
  | x :: l, i, h, j + 1, o, ho => by
    have := LocSAllG.at h.2 j o (by simpa using ho)
    rwa [show i + (j + 1) = i + 1 + j from by omega]
structure GsG (ops : Array Oper) (S : Γ → Nat → World → Prop) (R : Γ → Nat → Value → Prop) (T0 : Array Value) (D : List Deferred) (tm : List (Option Nat)) (N : Nat) (listed : Array Bool) (a : Act) (w : World) : Prop where
  sz : listed.size = ops.size
  df : a.defers = D
  ts : a.tmps.size = T0.size
  old : ∀ k, (ops.toList.all fun o => o.dst != some k) = true → a.tmps.getD k undef = T0.getD k undef
  st : ∃ γ c, c ≤ N ∧ S γ c w ∧ (∀ i m, tm[i]? = some (some m) → (listed.getD i false = true ↔ m < c)) ∧ ∀ j o k, ops[j]? = some o → o.dst = some k → listed.getD j false = true → R γ j (a.tmps.getD k undef)

theorem wp_seqG {id : Nat} (γ0 : Γ) {S : Γ → Nat → World → Prop} {R : Γ → Nat → Value → Prop} {tm : List (Option Nat)} {N : Nat} {a : Act} {w : World} (hm : P.follows .mixedOrders = true) (hB : seqB ops tm a.tmps.size N = true)
    (hS : S γ0 0 w.drew) (hl : LocSAllG P ops Q S R a.tmps tm 0 ops.toList)
    (hend : ∀ γ a' w', S γ N w' → a'.defers = a.defers → a'.tmps.size = a.tmps.size → (∀ k, (ops.toList.all fun o => o.dst != some k) = true → a'.tmps.getD k undef = a.tmps.getD k undef) →
      (∀ j o k, ops[j]? = some o → o.dst = some k → R γ j (a'.tmps.getD k undef)) → Q .normal a' w') : (Code.region id ops true).wp P Q a w := by
  simp only [seqB, Bool.and_eq_true, decide_eq_true_eq] at hB
  obtain ⟨⟨⟨⟨⟨⟨⟨hg, hn⟩, ha⟩, htn⟩, htN⟩, htl⟩, htc⟩, hN⟩ := hB
  have hgo : ∀ (i : Nat) (o : Oper), ops[i]? = some o → o.guard = none ∧ ∀ k, o.dst = some k → k < a.tmps.size := by
    intro i o ho
    rw [← Array.getElem?_toList] at ho
    have := List.all_eq_true.1 hg o (List.mem_of_getElem? ho)
    rw [Bool.and_eq_true] at this
    obtain ⟨h1, h2⟩ := this
    refine ⟨Option.isNone_iff_eq_none.1 h1, fun k hk => ?_⟩
    rw [hk] at h2
    exact of_decide_eq_true h2
  have hdist : ∀ (i j : Nat) (o o' : Oper) (k : Tmp), ops[i]? = some o → ops[j]? = some o' → o.dst = some k → o'.dst = some k → i = j := by
    intro i j o o' k ho ho' hk hk'
    rw [← Array.getElem?_toList] at ho ho'
    exact nodup_filterMap hn ho ho' hk hk'
  have hzi : ∀ (i : Nat) (o : Oper), ops[i]? = some o → (o, i) ∈ ops.toList.zipIdx := by
    intro i o ho
    rw [List.mem_zipIdx_iff_getElem?, Array.getElem?_toList]
    exact ho
  have htm : ∀ i m, tm[i]? = some (some m) ↔ tm.getD i none = some m := by
    intro i m
    rw [List.getD_eq_getElem?_getD]
    cases tm[i]? with
    | none => simp
    | some x => simp
  refine wp_region_any hm (wpAny_inv (GsG ops S R a.tmps a.defers tm N) ?_ ?_ ops.size _ a _ ?_ ?_)
  · intro listed a1 w1 i hI hi
    obtain ⟨h0, o, ho, hall⟩ := mem_ready.1 hi
    obtain ⟨hgd, hkn⟩ := hgo i o ho
    have hw : Region.wanted o (yielded ops a1.tmps) = true := by
      simp [Region.wanted, hgd]
    have hL : LocSG P ops Q S R a.tmps i o (tm.getD i none) := by
      have := LocSAllG.at hl i o (by rw [Array.getElem?_toList]; exact ho)
      rwa [Nat.zero_add] at this
    have hlt : i < listed.size := by rw [hI.sz]; exact (Array.getElem?_eq_some_iff.1 ho).1
    have hli : listed.getD i false = false := by
      have := h0
      simp [Array.getD, hlt] at this ⊢
      exact this
    obtain ⟨γ, c, hcN, hc, hct, hnew⟩ := hI.st
    have htold : Told ops (R γ) a.tmps o a1 := ⟨hI.old, fun e he hb o' k' ho' hk' => hnew e.on o' k' ho' hk' (hall e he hb)⟩
    have hset : ∀ j, (listed.setIfInBounds i true).getD j false = if j = i then true else listed.getD j false := by
      intro j
      rw [Array.getD_eq_getD_getElem?, Array.getD_eq_getD_getElem?]
      by_cases e : j = i
      · subst e
        rw [Array.getElem?_setIfInBounds_self_of_lt hlt, if_pos rfl]
        rfl
      · rw [Array.getElem?_setIfInBounds_ne (fun h => e h.symm), if_neg e]
    have hrest : ∀ γ' v w2, (∀ j u, R γ j u → R γ' j u) → R γ' i v → (∃ c, c ≤ N ∧ S γ' c w2 ∧ ∀ j m, tm[j]? = some (some m) → ((listed.setIfInBounds i true).getD j false = true ↔ m < c)) →
        GsG ops S R a.tmps a.defers tm N (listed.setIfInBounds i true) (a1.put o.dst v) w2 := by
      intro γ' v w2 hmono hR hst
      obtain ⟨c', hc1, hc2, hc3⟩ := hst
      refine ⟨by simpa using hI.sz, ?_, ?_, ?_, γ', c', hc1, hc2, hc3, ?_⟩
      · cases hd : o.dst <;> exact hI.df
      · cases hd : o.dst with
        | none => exact hI.ts
        | some k => simpa [Act.put] using hI.ts
      · intro k' hk'
        cases hd : o.dst with
        | none => exact hI.old k' hk'
        | some k =>
          have hne : k ≠ k' := by
            rintro rfl
            rw [← Array.getElem?_toList] at ho
            have := List.all_eq_true.1 hk' o (List.mem_of_getElem? ho)
            rw [hd] at this
            simp at this
          show (a1.tmps.setIfInBounds k v).getD k' undef = _
          rw [getD_put_ne hne]
          exact hI.old k' hk'
      · intro j o' k' ho' hk' hlj
        rw [hset] at hlj
        by_cases e : j = i
        · subst e
          obtain rfl : o = o' := by rw [ho] at ho'; exact Option.some.inj ho'
          rw [hk']
          show R γ' j ((a1.tmps.setIfInBounds k' v).getD k' undef)
          rw [getD_put (by rw [hI.ts]; exact hkn k' hk')]
          exact hR
        · rw [if_neg e] at hlj
          have hold := hmono j _ (hnew j o' k' ho' hk' hlj)
          cases hd : o.dst with
          | none => exact hold
          | some k =>
            have hne : k ≠ k' := by
              rintro rfl
              exact e (hdist j i o' o k ho' ho hk' hd)
            show R γ' j ((a1.tmps.setIfInBounds k v).getD k' undef)
            rw [getD_put_ne hne]
            exact hold
    unfold wpOp
    simp only [ho, hw, if_true]
    cases ht : tm.getD i none with
    | none =>
      rw [ht] at hL
      refine Or.inl (hL γ c a1 w1 _ hc htold fun v hR => hrest γ v w1 (fun _ _ h => h) hR ⟨c, hcN, hc, fun j m hj => ?_⟩)
      rw [hset]
      have hji : j ≠ i := by
        rintro rfl
        rw [(htm j m).1 hj] at ht
        cases ht
      rw [if_neg hji]
      exact hct j m hj
    | some m =>
      rw [ht] at hL
      have him := (htm i m).2 ht
      have hmc : m = c := by
        have h1 : ¬ m < c := fun h => by
          have := (hct i m him).2 h
          rw [hli] at this
          cases this
        have h2 : m ≤ c := by
          cases m with
          | zero => omega
          | succ m =>
            have h3 := List.all_eq_true.1 ha _ (hzi i o ho)
            rw [Bool.and_eq_true] at h3
            have h4 := h3.2
            simp only [ht] at h4
            obtain ⟨e, he, h5⟩ := Array.any_eq_true'.1 h4
            rw [Bool.and_eq_true] at h5
            have h6 : tm.getD e.on none = some m := by simpa using h5.2
            have h7 := (hct e.on m ((htm e.on m).2 h6)).1 (hall e he h5.1)
            omega
        omega
      subst hmc
      have hmN : m < N := of_decide_eq_true (List.all_eq_true.1 htN m (List.mem_filterMap.2 ⟨some m, List.mem_of_getElem? him, rfl⟩))
      refine Or.inl (hL γ a1 w1 _ hc htold fun γ' v w2 hS2 hmono hR => hrest γ' v w2 hmono hR ⟨m + 1, hmN, hS2, fun j m' hj => ?_⟩)
      rw [hset]
      by_cases e : j = i
      · subst e
        rw [him] at hj
        obtain rfl : m = m' := by simpa using hj
        simp
      · rw [if_neg e, hct j m' hj]
        have : m' ≠ m := by
          rintro rfl
          exact e (nodup_filterMap htn hj him rfl rfl)
        omega
  · intro listed a1 w1 hI hr
    have hmin : ∀ n i, i < n → i < ops.size → listed.getD i false = true := by
      intro n
      induction n with
      | zero => intro i hi; omega
      | succ n ih =>
        intro i hi his
        cases hli : listed.getD i false with
        | true => rfl
        | false =>
          exfalso
          have hir : i ∈ Region.ready .any ops listed := by
            refine mem_ready.2 ⟨?_, ops[i], by simp [his], ?_⟩
            · have hls : i < listed.size := by rw [hI.sz]; exact his
              simp [Array.getD, hls] at hli ⊢
              exact hli
            · intro e he _
              have hz : (ops[i], i) ∈ ops.toList.zipIdx := hzi i _ (by simp [his])
              have h2 := List.all_eq_true.1 ha _ hz
              rw [Bool.and_eq_true] at h2
              have h3 := of_decide_eq_true (Array.all_eq_true_iff_forall_mem.1 h2.1 e he)
              exact ih e.on (by simp only at h3; omega) (by simp only at h3; omega)
          rw [hr] at hir
          cases hir
    obtain ⟨γ, c, hcN, hc, hct, hnew⟩ := hI.st
    have hcc : c = N := by
      have h1 : some (N - 1) ∈ tm := by simpa using htc
      obtain ⟨i, hi⟩ := List.mem_iff_getElem?.1 h1
      have h2 := (List.getElem?_eq_some_iff.1 hi).1
      have h3 := (hct i (N - 1) hi).1 (hmin (i + 1) i (by omega) (by omega))
      omega
    subst hcc
    refine hend γ a1 w1 hc hI.df hI.ts hI.old fun j o k ho hk => hnew j o k ho hk ?_
    exact hmin (j + 1) j (by omega) (Array.getElem?_eq_some_iff.1 ho).1
  · simp
  · refine ⟨by simp, rfl, rfl, fun _ _ => rfl, γ0, 0, Nat.zero_le _, hS, fun i m hi => ?_, fun j o k ho hk hlj => ?_⟩
    · rw [Array.getD_eq_getD_getElem?, Array.getElem?_replicate]
      split <;> simp
    · rw [Array.getD_eq_getD_getElem?, Array.getElem?_replicate] at hlj
      split at hlj <;> simp at hlj
end

end Go.Proofs.YtbdbefgfejdbjaaGreat
