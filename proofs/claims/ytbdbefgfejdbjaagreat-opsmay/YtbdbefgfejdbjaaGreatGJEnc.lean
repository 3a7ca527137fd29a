/-
  Drawn regions that only make memory, whatever the order: what each operation yields is told by a predicate that lasts.
  ops: whether a result may be, and its bytes.
-/
import Derived.Orders
import Derived.Below
import Derived.KernelRfl
import Derived.Test.YtbdbefgfejdbjaaGreatGJBr
import Derived.Deep.RegionHeld3
import Derived.Laws.ResultCell
import Derived.Deep.Cut
namespace Go.Proofs.YtbdbefgfejdbjaaGreat
open Go.RowKit

section
variable {P : Program} {ops : Array Oper} {Q : Exit → Act → World → Prop}
theorem getD_lt {l : Array Bool} {j : Nat} (h : l.getD j true = false) : j < l.size ∧ l[j]? = some false := by
  rcases Nat.lt_or_ge j l.size with h1 | h1
  · refine ⟨h1, ?_⟩
    simp [Array.getD, h1] at h
    simp [h1, h]
  · simp [Array.getD, Nat.not_lt.2 h1] at h
theorem wpAny_inv (Inv : Array Bool → Act → World → Prop)
    (hstep : ∀ listed a w i, Inv listed a w → i ∈ Region.ready .any ops listed → wpOp P ops Q i (Inv (listed.setIfInBounds i true)) a w)
    (hend : ∀ listed a w, Inv listed a w → Region.ready .any ops listed = [] → Q .normal a w) :
    ∀ (fuel : Nat) (listed : Array Bool) (a : Act) (w : World), listed.toList.count false ≤ fuel → Inv listed a w → wpAny P .any ops Q fuel listed a w
  | 0, listed, a, w, hc, h => by
    have hr : Region.ready .any ops listed = [] := by
      apply List.eq_nil_iff_forall_not_mem.2
      intro j hj
      obtain ⟨h1, h2⟩ := getD_lt (mem_ready.1 hj).1
      have hm : false ∈ listed.toList := by
        rw [← Array.getElem?_toList] at h2
        exact List.mem_of_getElem? h2
      have := List.count_pos_iff.2 hm
      omega
    exact ⟨hr, hend listed a w h hr⟩
  | fuel + 1, listed, a, w, hc, h => by
    refine ⟨fun hr => hend _ _ _ h hr, fun i hi => wpOp_mono (fun a' w' h' => wpAny_inv Inv hstep hend fuel _ a' w' ?_ h') (hstep listed a w i h hi)⟩
    obtain ⟨h1, h2⟩ := getD_lt (mem_ready.1 hi).1
    have e : listed[i] = false := by simpa [h1] using h2
    have hm : false ∈ listed.toList := by
      rw [← Array.getElem?_toList] at h2
      exact List.mem_of_getElem? h2
    have hp := List.count_pos_iff.2 hm
    rw [Array.toList_setIfInBounds, List.count_set (by simpa using h1)]
    have e2 : (listed.toList[i]'(by simpa using h1)) = false := by simpa using e
    rw [e2]
    simp only [beq_self_eq_true, if_true]
    have : (true == false) = false := rfl
    rw [this]
    simp only [Bool.false_eq_true, if_false]
    omega

/-- One operation, wherever what it waits for is there. -/
def Loc (P : Program) (ops : Array Oper) (Q : Exit → Act → World → Prop) (R : Nat → Value → World → Prop) (w0 : World) (T0 : Array Value) (i : Nat) (o : Oper) : Prop :=
  ∀ (a : Act) (w : World) (K : Act → World → Prop), Below w0.heap.size w0 w → (∀ k, (ops.toList.all fun o => o.dst != some k) = true → a.tmps.getD k undef = T0.getD k undef) →
    (∀ e ∈ o.after, Region.binds .any e = true → ∀ o' k, ops[e.on]? = some o' → o'.dst = some k → R e.on (a.tmps.getD k undef) w) →
    (∀ v w', Below w.heap.size w w' → R i v w' → K (a.put o.dst v) w') → o.wp P a w K Q
def LocAll (P : Program) (ops : Array Oper) (Q : Exit → Act → World → Prop) (R : Nat → Value → World → Prop) (w0 : World) (T0 : Array Value) : Nat → List Oper → Prop
  | _, [] => True
  | i, o :: l => Loc P ops Q R w0 T0 i o ∧ LocAll P ops Q R w0 T0 (i + 1) l
theorem LocAll.at {R : Nat → Value → World → Prop} {w0 : World} {T0 : Array Value} : ∀ {l : List Oper} {i : Nat}, LocAll P ops Q R w0 T0 i l → ∀ j o, l[j]? = some o → Loc P ops Q R w0 T0 (i + j) o
  | [], _, _, _, _, h => by simp at h
  | x :: l, i, h, 0, o, ho => by
    obtain rfl : x = o := by simpa using ho
    exact h.1
  | x :: l, i, h, j + 1, o, ho => by
    have := LocAll.at h.2 j o (by simpa using ho)
    rwa [show i + (j + 1) = i + 1 + j from by omega]
/-- Each has a slot of its own, none is guarded, each waits only for such as stand ahead of it. -/
def growB (ops : Array Oper) (n : Nat) : Bool :=
  (ops.toList.all fun o => o.guard.isNone && (match o.dst with | some k => decide (k < n) | none => false)) && decide (ops.toList.map (·.dst)).Nodup &&
  (ops.toList.zipIdx.all fun x => x.1.after.all fun e => decide (e.on < x.2))

structure Gi (ops : Array Oper) (R : Nat → Value → World → Prop) (w0 : World) (T0 : Array Value) (D : List Deferred) (listed : Array Bool) (a : Act) (w : World) : Prop where
  sz : listed.size = ops.size
  bel : Below w0.heap.size w0 w
  df : a.defers = D
  ts : a.tmps.size = T0.size
  old : ∀ k, (ops.toList.all fun o => o.dst != some k) = true → a.tmps.getD k undef = T0.getD k undef
  new : ∀ j o k, ops[j]? = some o → o.dst = some k → listed.getD j false = true → R j (a.tmps.getD k undef) w

theorem getD_put {t : Array Value} {k : Nat} {v : Value} (h : k < t.size) : (t.setIfInBounds k v).getD k undef = v := by
  simp [Array.getD, h]
theorem getD_put_ne {t : Array Value} {k k' : Nat} {v : Value} (h : k ≠ k') : (t.setIfInBounds k v).getD k' undef = t.getD k' undef := by
  rw [Array.getD_eq_getD_getElem?, Array.getD_eq_getD_getElem?, Array.getElem?_setIfInBounds_ne h]
theorem wp_grow {id : Nat} {R : Nat → Value → World → Prop} {a : Act} {w : World} (hm : P.follows .mixedOrders = true) (hB : growB ops a.tmps.size = true)
    (hst : ∀ i v w w', R i v w → Below w.heap.size w w' → R i v w')
    (hl : LocAll P ops Q R w.drew a.tmps 0 ops.toList)
    (hend : ∀ a' w', Below w.drew.heap.size w.drew w' → a'.defers = a.defers → a'.tmps.size = a.tmps.size → (∀ k, (ops.toList.all fun o => o.dst != some k) = true → a'.tmps.getD k undef = a.tmps.getD k undef) →
      (∀ j o k, ops[j]? = some o → o.dst = some k → R j (a'.tmps.getD k undef) w') → Q .normal a' w') : (Code.region id ops true).wp P Q a w := by
  simp only [growB, Bool.and_eq_true, decide_eq_true_eq] at hB
  obtain ⟨⟨hg, hn⟩, ha⟩ := hB
  have hgo : ∀ (i : Nat) (o : Oper), ops[i]? = some o → o.guard = none ∧ ∃ k, o.dst = some k ∧ k < a.tmps.size := by
    intro i o ho
    rw [← Array.getElem?_toList] at ho
    have := List.all_eq_true.1 hg o (List.mem_of_getElem? ho)
    rw [Bool.and_eq_true] at this
    obtain ⟨h1, h2⟩ := this
    refine ⟨Option.isNone_iff_eq_none.1 h1, ?_⟩
    cases hd : o.dst with
    | none => rw [hd] at h2; simp at h2
    | some k => rw [hd] at h2; exact ⟨k, rfl, of_decide_eq_true h2⟩
  have hdist : ∀ (i j : Nat) (o o' : Oper) (k : Tmp), ops[i]? = some o → ops[j]? = some o' → o.dst = some k → o'.dst = some k → i = j := by
    intro i j o o' k ho ho' hk hk'
    rw [← Array.getElem?_toList] at ho ho'
    refine (List.getElem?_inj (l := ops.toList.map (·.dst)) (by rw [List.length_map]; exact (List.getElem?_eq_some_iff.1 ho).1) hn).1 ?_
    rw [List.getElem?_map, List.getElem?_map, ho, ho']
    simp [hk, hk']
  refine wp_region_any hm (wpAny_inv (Gi ops R w.drew a.tmps a.defers) ?_ ?_ ops.size _ a _ ?_ ?_)
  · intro listed a1 w1 i hI hi
    obtain ⟨h0, o, ho, hall⟩ := mem_ready.1 hi
    obtain ⟨hgd, k, hk, hkn⟩ := hgo i o ho
    have hw : Region.wanted o (yielded ops a1.tmps) = true := by
      simp [Region.wanted, hgd]
    have hL : Loc P ops Q R w.drew a.tmps i o := by
      have := LocAll.at hl i o (by rw [Array.getElem?_toList]; exact ho)
      rwa [Nat.zero_add] at this
    have hlt : i < listed.size := by rw [hI.sz]; exact (Array.getElem?_eq_some_iff.1 ho).1
    unfold wpOp
    simp only [ho, hw, if_true]
    refine Or.inl (hL a1 w1 _ hI.bel hI.old (fun e he hb o' k' ho' hk' => hI.new e.on o' k' ho' hk' (hall e he hb)) ?_)
    intro v w2 hb2 hR
    have hsz : k < a1.tmps.size := by rw [hI.ts]; exact hkn
    rw [hk]
    refine ⟨by simpa using hI.sz, hI.bel.trans (hb2.mono hI.bel.size), hI.df, by simpa [Act.put] using hI.ts, ?_, ?_⟩
    · intro k' hk'
      have hne : k ≠ k' := by
        rintro rfl
        rw [← Array.getElem?_toList] at ho
        have := List.all_eq_true.1 hk' o (List.mem_of_getElem? ho)
        rw [hk] at this
        simp at this
      show (a1.tmps.setIfInBounds k v).getD k' undef = _
      rw [getD_put_ne hne]
      exact hI.old k' hk'
    · intro j o' k' ho' hk' hlj
      show R j ((a1.tmps.setIfInBounds k v).getD k' undef) w2
      by_cases e : j = i
      · subst e
        obtain rfl : o = o' := by rw [ho] at ho'; exact Option.some.inj ho'
        obtain rfl : k = k' := by rw [hk] at hk'; exact Option.some.inj hk'
        rw [getD_put hsz]
        exact hR
      · have hne : k ≠ k' := by
          rintro rfl
          exact e (hdist j i o' o k ho' ho hk' hk)
        rw [getD_put_ne hne]
        have hlj' : listed.getD j false = true := by
          rw [Array.getD_eq_getD_getElem?, Array.getElem?_setIfInBounds_ne (fun h => e h.symm)] at hlj
          rw [Array.getD_eq_getD_getElem?]
          exact hlj
        exact hst j _ w1 w2 (hI.new j o' k' ho' hk' hlj') hb2
  · intro listed a1 w1 hI hr
    have hmin : ∀ n i, i < n → i < ops.size → listed.getD i false = true := by
      intro n
      induction n with
      | zero => intro i hi; omega
      | succ n ih =>
        intro i hi his
        cases hli : listed.getD i false with
        | true => rfl
        | false =>
          exfalso
          have hir : i ∈ Region.ready .any ops listed := by
            refine mem_ready.2 ⟨?_, ops[i], by simp [his], ?_⟩
            · have hls : i < listed.size := by rw [hI.sz]; exact his
              simp [Array.getD, hls] at hli ⊢
              exact hli
            · intro e he _
              have hz : (ops[i], i) ∈ ops.toList.zipIdx := by
                rw [List.mem_zipIdx_iff_getElem?, Array.getElem?_toList]
                simp [his]
              have h2 := List.all_eq_true.1 ha _ hz
              have h3 := of_decide_eq_true (Array.all_eq_true_iff_forall_mem.1 h2 e he)
              exact ih e.on (by simp only at h3; omega) (by simp only at h3; omega)
          rw [hr] at hir
          cases hir
    refine hend a1 w1 hI.bel hI.df hI.ts hI.old fun j o k ho hk => hI.new j o k ho hk ?_
    exact hmin (j + 1) j (by omega) (Array.getElem?_eq_some_iff.1 ho).1
  · simp
  · refine ⟨by simp, Below.refl _ _, rfl, rfl, fun _ _ => rfl, fun j o k ho hk hlj => ?_⟩
    rw [Array.getD_eq_getD_getElem?, Array.getElem?_replicate] at hlj
    split at hlj <;> simp at hlj
/-- A frame's slots, written out. -/
theorem arr_lit {t : Array Value} {n : Nat} (h : t.size = n) : t = ((List.range n).map fun k => t.getD k undef).toArray := by
  apply Array.ext
  · simp [h]
  · intro i h1 h2
    simp [Array.getD, h1]
end

end Go.Proofs.YtbdbefgfejdbjaaGreat

namespace Go.Proofs.YtbdbefgfejdbjaaGreat
open Go.RowKit Go.BigFrame
attribute [local go_sem] size_bstr toList_bstr append_bstr

theorem below2 {w a b : World} (h : Below w.heap.size w a) (k : Below a.heap.size a b) : Below w.heap.size w b := h.trans (k.mono h.size)
theorem blk_lt {w : World} {b : Nat} {o : Obj} (h : w.heap[b]? = some o) : b < w.heap.size := (Array.getElem?_eq_some_iff.1 h).1
theorem mcells {w : World} {g : Nat} {cur : Array Value} {t : TypeId} (h : w.heap[g]? = some (.cells cur t (0, 0))) : (∀ o, w.cell? ⟨g, o, none⟩ = cur[o]?) ∧ ∀ o, w.frozen? ⟨g, o, none⟩ = false :=
  ⟨fun o => by simp [World.cell?, h], fun o => by simp [World.frozen?, h]⟩
theorem jArg_any (g : Bool) (w : World) :
    Calls Tryz.prog 37 #[.bool g] w fun e w' => e = .returned (.int .i64 (if g then 0 else 2)) ∧ w' = w := by
  go_enter Tryz.func37, Tryz.ntmps37
  cases g
  all_goals
    go_wp2
    go_ret
    exact ⟨rfl, rfl⟩
theorem jErr_any (e : Int) (w : World) :
    Calls Tryz.prog 82 #[.int .i64 e] w fun x w' => x = .returned (.bool (decide (0 ≤ e) && decide (e ≤ 15))) ∧ w' = w := by
  go_enter Tryz.func82, Tryz.ntmps82
  by_cases h0 : 0 ≤ e
  · by_cases h1 : e ≤ 15
    · go_wp2
      go_ret
      exact ⟨by simp [h0, h1], rfl⟩
    · go_wp2
      go_ret
      exact ⟨by simp [h1], rfl⟩
  · go_wp2
    go_ret
    exact ⟨by simp; omega, rfl⟩
theorem jStored_any (s : List UInt8) (w : World) :
    Calls Tryz.prog 35 #[.string (bstr s)] w fun x w' => x = .returned (.bool (decide (s.length ≤ 32))) ∧ w' = w := by
  go_enter Tryz.func35, Tryz.ntmps35
  go_wp2
  go_ret
  rw [show decide ((s.length : Int) ≤ 32) = decide (s.length ≤ 32) from decide_eq_decide.2 (by omega)]
  exact ⟨rfl, rfl⟩

set_option maxHeartbeats 1000000 in
theorem jResult_any (r : Rz) (w : World) :
    Calls Tryz.prog 52 #[rzV r] w fun x w' => x = .returned (.int .i64 (if okR r then 0 else 2)) ∧ Below w.heap.size w w' := by
  obtain ⟨e, f, ro, va, ve⟩ := r
  obtain ⟨bE, hE⟩ : ∃ b, b = (decide (0 ≤ e) && decide (e ≤ 15)) := ⟨_, rfl⟩
  obtain ⟨bS, hS⟩ : ∃ b, b = decide (ro.length ≤ 32) := ⟨_, rfl⟩
  obtain ⟨bV, hV⟩ : ∃ b, b = decide (va.length ≤ 65536) := ⟨_, rfl⟩
  obtain ⟨bN, hN⟩ : ∃ b, b = decide (ve ≤ 1099511627776) := ⟨_, rfl⟩
  have ho : okR ⟨e, f, ro, va, ve⟩ = (bE && bS && bV && bN) := by rw [hE, hS, hV, hN]; rfl
  rw [ho]
  have HE : Hid _ := hE
  have HS : Hid _ := hS
  clear ho hE hS
  go_enter Tryz.func52, Tryz.ntmps52
  go_wp2_with fail
  refine (jErr_any e _).mono ?_
  rintro x w1 ⟨rfl, rfl⟩
  rw [← HE.out]
  cases bE with
  | false =>
    go_wp2_with fail
    refine (jArg_any false _).mono ?_
    rintro x w2 ⟨rfl, rfl⟩
    go_wp2
    go_ret
    exact ⟨rfl, (Below.refl _ _).alloc (Nat.le_refl _) _⟩
  | true =>
    go_wp2_with fail
    refine (jStored_any ro _).mono ?_
    rintro x w2 ⟨rfl, rfl⟩
    rw [← HS.out]
    cases bS with
    | false =>
      go_wp2_with fail
      refine (jArg_any false _).mono ?_
      rintro x w2 ⟨rfl, rfl⟩
      go_wp2
      go_ret
      exact ⟨rfl, (Below.refl _ _).alloc (Nat.le_refl _) _⟩
    | true =>
      cases bV with
      | false =>
        have h1 : 65536 < (va.length : Int) := by have := of_decide_eq_false hV.symm; omega
        clear hV
        go_wp2_with fail
        refine (jArg_any false _).mono ?_
        rintro x w2 ⟨rfl, rfl⟩
        go_wp2
        go_ret
        exact ⟨rfl, (Below.refl _ _).alloc (Nat.le_refl _) _⟩
      | true =>
        have h1 : (va.length : Int) ≤ 65536 := by have := of_decide_eq_true hV.symm; omega
        clear hV
        rw [show decide (ve ≤ 1099511627776) = decide ((ve : Int) ≤ 1099511627776) from decide_eq_decide.2 (by omega)] at hN
        have HN : Hid _ := hN
        clear hN
        go_wp2_with fail
        refine (jArg_any _ _).mono ?_
        rintro x w2 ⟨rfl, rfl⟩
        rw [← HN.out]
        cases bN
        all_goals
          go_wp2
          go_ret
          exact ⟨rfl, (Below.refl _ _).alloc (Nat.le_refl _) _⟩

/-- Numbers, texts as bytes, one behind the other. -/
def nums (l : List Nat) : List UInt8 := (l.map Lib.uvarint).flatten
def txts (l : List (List UInt8)) : List UInt8 := (l.map txt).flatten
theorem nums_take (l : List Nat) (i : Nat) (h : i < l.length) : nums (l.take (i + 1)) = nums (l.take i) ++ Lib.uvarint l[i] := by
  unfold nums
  rw [List.take_add_one, List.getElem?_eq_getElem h, List.map_append, List.flatten_append]
  congr 1
  simp
theorem txts_take (l : List (List UInt8)) (i : Nat) (h : i < l.length) : txts (l.take (i + 1)) = txts (l.take i) ++ txt l[i] := by
  unfold txts
  rw [List.take_add_one, List.getElem?_eq_getElem h, List.map_append, List.flatten_append]
  congr 1
  simp
theorem nums_len (l : List Nat) (h : ∀ x ∈ l, x < 18446744073709551616) : (nums l).length ≤ 10 * l.length := by
  induction l with
  | nil => simp [nums]
  | cons x l ih =>
    have h1 := ih fun y hy => h y (List.mem_cons_of_mem _ hy)
    have h2 := Lib.uvarint_length64 (h x List.mem_cons_self)
    unfold nums at h1 ⊢
    simp only [List.map_cons, List.flatten_cons, List.length_append, List.length_cons]
    omega
theorem txts_len (l : List (List UInt8)) (m : Nat) (hm : m ≤ 10000000) (h : ∀ x ∈ l, x.length ≤ m) : (txts l).length ≤ (m + 10) * l.length := by
  induction l with
  | nil => simp [txts]
  | cons x l ih =>
    have h1 := ih fun y hy => h y (List.mem_cons_of_mem _ hy)
    have h0 := h x List.mem_cons_self
    have h2 := txt_len (s := x) (by omega)
    unfold txts at h1 ⊢
    simp only [List.map_cons, List.flatten_cons, List.length_append, List.length_cons]
    rw [Nat.mul_add, Nat.mul_one]
    omega

set_option maxHeartbeats 1000000 in
theorem jNums_any (b cap : Nat) (l : List Nat) (w : World) (hl : l.length ≤ 20) (hc : ∀ i (h : i < l.length), w.cell? ⟨b, i, none⟩ = some (.int .u64 (l[i] : Int))) (hb : b < w.heap.size) (hv : ∀ x ∈ l, x < 18446744073709551616) :
    Calls Tryz.prog 75 #[.slice (some ⟨b, 0, none⟩) l.length cap] w fun x w' => x = .returned (.string (bstr (nums l))) ∧ Below w.heap.size w w' := by
  go_enter Tryz.func75, Tryz.ntmps75
  go_wp2
  go_loopw [3, 8] (fun s3 s8 wr => ∃ i : Nat, s8 = .int .i64 (i : Int) ∧ i ≤ l.length ∧ s3 = .string (bstr (nums (l.take i))) ∧ Below w.heap.size w wr) (fun _ s8 _ => 21 - (intOf s8).toNat)
  case atStart => exact ⟨0, rfl, by omega, by simp [nums]; rfl, Below.refl _ _⟩
  case round =>
    obtain ⟨i, rfl, hil, rfl, hbr⟩ := hrel
    by_cases hlt : i < l.length
    · have hi1 : (i : Int) < (l.length : Int) := by omega
      have c0 := hc i hlt
      have c1 : wr.cell? ⟨b, i, none⟩ = some (.int .u64 (l[i] : Int)) := by rw [World.cell?_of_block (hbr.block b hb)]; exact c0
      have hx := hv _ (List.getElem_mem hlt)
      have hln := nums_len (l.take i) (fun x hx => hv x (List.mem_of_mem_take hx))
      have hlt2 : (l.take i).length ≤ 20 := by rw [List.length_take]; omega
      have ht := nums_take l i hlt
      have HT : Hid _ := ht
      clear c0 ht
      generalize l[i] = x at *
      go_wp2_with fail
      refine (putNum (nums (l.take i)) x _ hx (by omega)).mono ?_
      rintro e w2 ⟨rfl, hb2⟩
      rw [← HT.out]
      go_wp2
      go_roundw
      case rel => exact ⟨i + 1, by simp, by omega, rfl, below2 hbr hb2⟩
      case measure => simp [intOf]; omega
    · obtain rfl : i = l.length := by omega
      rw [List.take_length]
      go_wp2
      go_ret
      exact ⟨rfl, hbr⟩

set_option maxHeartbeats 1000000 in
theorem jTxts_any (b cap m : Nat) (l : List (List UInt8)) (w : World) (hl : l.length ≤ 20) (hc : ∀ i (h : i < l.length), w.cell? ⟨b, i, none⟩ = some (.string (bstr l[i]))) (hb : b < w.heap.size) (hm : m ≤ 1048576) (hv : ∀ x ∈ l, x.length ≤ m) :
    Calls Tryz.prog 84 #[.slice (some ⟨b, 0, none⟩) l.length cap] w fun x w' => x = .returned (.string (bstr (txts l))) ∧ Below w.heap.size w w' := by
  go_enter Tryz.func84, Tryz.ntmps84
  go_wp2
  go_loopw [3, 8] (fun s3 s8 wr => ∃ i : Nat, s8 = .int .i64 (i : Int) ∧ i ≤ l.length ∧ s3 = .string (bstr (txts (l.take i))) ∧ Below w.heap.size w wr) (fun _ s8 _ => 21 - (intOf s8).toNat)
  case atStart => exact ⟨0, rfl, by omega, by simp [txts]; rfl, Below.refl _ _⟩
  case round =>
    obtain ⟨i, rfl, hil, rfl, hbr⟩ := hrel
    by_cases hlt : i < l.length
    · have hi1 : (i : Int) < (l.length : Int) := by omega
      have c0 := hc i hlt
      have c1 : wr.cell? ⟨b, i, none⟩ = some (.string (bstr l[i])) := by rw [World.cell?_of_block (hbr.block b hb)]; exact c0
      have hx := hv _ (List.getElem_mem hlt)
      have hln := txts_len (l.take i) m (by omega) (fun x hx => hv x (List.mem_of_mem_take hx))
      have hlt2 : (l.take i).length ≤ 20 := by rw [List.length_take]; omega
      have hln2 : (txts (l.take i)).length ≤ 10000000000 := by
        have := Nat.mul_le_mul (show m + 10 ≤ 2000000 by omega) hlt2
        omega
      have ht := txts_take l i hlt
      have HT : Hid _ := ht
      clear c0 ht hln
      generalize l[i] = x at *
      go_wp2_with fail
      refine (putText (txts (l.take i)) x _ hln2 (by omega)).mono ?_
      rintro e w2 ⟨rfl, hb2⟩
      rw [← HT.out]
      go_wp2
      go_roundw
      case rel => exact ⟨i + 1, by simp, by omega, rfl, below2 hbr hb2⟩
      case measure => simp [intOf]; omega
    · obtain rfl : i = l.length := by omega
      rw [List.take_length]
      go_wp2
      go_ret
      exact ⟨rfl, hbr⟩

theorem jBool_any (f : Bool) (w : World) :
    Calls Tryz.prog 83 #[.bool f] w fun x w' => x = .returned (.string (bstr (bol f))) ∧ Below w.heap.size w w' := by
  go_enter Tryz.func83, Tryz.ntmps83
  cases f
  · go_wp2_with fail
    refine (PutByte_any ⟨#[]⟩ 0 _ (by decide) (by decide)).mono ?_
    rintro e w2 ⟨rfl, hb2⟩
    go_wp2
    go_ret
    exact ⟨rfl, hb2⟩
  · go_wp2_with fail
    refine (PutByte_any ⟨#[]⟩ 1 _ (by decide) (by decide)).mono ?_
    rintro e w2 ⟨rfl, hb2⟩
    go_wp2
    go_ret
    exact ⟨rfl, hb2⟩

/-! ### cells behind what only makes memory -/
theorem cell_drew {w : World} {a : Addr} {v : Value} (h : w.cell? a = some v) : w.drew.cell? a = some v := h
theorem cell_below {w w' : World} {a : Addr} {v : Value} (hb : Below w.heap.size w w') (h : w.cell? a = some v) : w'.cell? a = some v := by rw [hb.cell (block_lt_of_cell h)]; exact h
theorem cell_alloc_old {w : World} {a : Addr} {v : Value} {x : Obj} (h : w.cell? a = some v) : (w.alloc x).cell? a = some v := cell_below ((Below.refl _ _).alloc (Nat.le_refl _) _) h
theorem cell_new0 {w : World} {b : Nat} (x : Value) (vs : List Value) (t : TypeId) (hb : b = w.heap.size) : (w.alloc (.cells (x :: vs).toArray t)).cell? ⟨b, 0, none⟩ = some x := by
  subst hb
  exact (mcells (heap_alloc_new w _)).1 0
theorem cell_new1 {w : World} {b : Nat} (x y : Value) (vs : List Value) (t : TypeId) (hb : b = w.heap.size) : (w.alloc (.cells (x :: y :: vs).toArray t)).cell? ⟨b, 1, none⟩ = some y := by
  subst hb
  exact (mcells (heap_alloc_new w _)).1 1
theorem bel_drew {w x : World} (h : Below w.heap.size w x) : Below w.heap.size w x.drew := h.drew
theorem bel_alloc {w x : World} {o : Obj} (h : Below w.heap.size w x) : Below w.heap.size w (x.alloc o) := h.alloc h.size o
theorem bel_call {w x y : World} (k : Below x.heap.size x y) (h : Below w.heap.size w x) : Below w.heap.size w y := below2 h k

/-- What an operation yields: this; a new row of these. -/
def eqV (x : Value) : Value → World → Prop := fun v _ => v = x
def slV (xs : List Value) : Value → World → Prop := fun v w => ∃ b, v = .slice (some ⟨b, 0, none⟩) xs.length xs.length ∧ b < w.heap.size ∧ ∀ i (h : i < xs.length), w.cell? ⟨b, i, none⟩ = some xs[i]
def Lst (r : Value → World → Prop) : Prop := ∀ v w w', r v w → Below w.heap.size w w' → r v w'
theorem lst_eqV (x : Value) : Lst (eqV x) := fun _ _ _ h _ => h
theorem lst_slV (xs : List Value) : Lst (slV xs) := fun v w w' h hb => by
  obtain ⟨b, h1, h2, h3⟩ := h
  exact ⟨b, h1, Nat.lt_of_lt_of_le h2 hb.size, fun i hi => cell_below hb (h3 i hi)⟩
theorem sl_new1 (W : World) (x : Value) (t : TypeId) : slV [x] (.slice (some ⟨W.heap.size, 0, none⟩) 1 1) (W.alloc (.cells #[x] t)) :=
  ⟨W.heap.size, rfl, by simp, fun i h => by
    obtain rfl : i = 0 := by simpa using h
    exact cell_new0 x [] t rfl⟩
theorem sl_new2 (W : World) (x y : Value) (t : TypeId) : slV [x, y] (.slice (some ⟨W.heap.size, 0, none⟩) 2 2) (W.alloc (.cells #[x, y] t)) :=
  ⟨W.heap.size, rfl, by simp, fun i h => by
    match i, h with
    | 0, _ => exact cell_new0 x [y] t rfl
    | 1, _ => exact cell_new1 x y [] t rfl⟩
def RS (rs : List (Value → World → Prop)) (i : Nat) (v : Value) (w : World) : Prop := (rs.getD i fun _ _ => True) v w
theorem RS.below {rs : List (Value → World → Prop)} (h : ∀ r ∈ rs, Lst r) : ∀ i v w w', RS rs i v w → Below w.heap.size w w' → RS rs i v w' := by
  intro i v w w' hR hb
  unfold RS at hR ⊢
  rw [List.getD_eq_getElem?_getD] at hR ⊢
  cases he : rs[i]? with
  | none => trivial
  | some r =>
    rw [he] at hR
    exact h r (List.mem_of_getElem? he) v w w' hR hb

theorem jNum1 (b cap x : Nat) (w : World) (hx : x < 18446744073709551616) (hc : w.cell? ⟨b, 0, none⟩ = some (.int .u64 (x : Int))) :
    Calls Tryz.prog 75 #[.slice (some ⟨b, 0, none⟩) 1 cap] w fun e w' => e = .returned (.string (bstr (Lib.uvarint x))) ∧ Below w.heap.size w w' := by
  have := jNums_any b cap [x] w (by simp) (fun i h => by
    obtain rfl : i = 0 := by simpa using h
    exact hc) (block_lt_of_cell hc) (fun y hy => by obtain rfl : y = x := by simpa using hy
                                                    exact hx)
  rw [show nums [x] = Lib.uvarint x from by simp [nums]] at this
  exact this
theorem jTxt2 (b cap : Nat) (r v : List UInt8) (w : World) (hr : r.length ≤ 1048576) (hv : v.length ≤ 1048576) (h0 : w.cell? ⟨b, 0, none⟩ = some (.string (bstr r))) (h1 : w.cell? ⟨b, 1, none⟩ = some (.string (bstr v))) :
    Calls Tryz.prog 84 #[.slice (some ⟨b, 0, none⟩) 2 cap] w fun e w' => e = .returned (.string (bstr (txt r ++ txt v))) ∧ Below w.heap.size w w' := by
  have := jTxts_any b cap 1048576 [r, v] w (by simp) (fun i h => by
    match i, h with
    | 0, _ => exact h0
    | 1, _ => exact h1) (block_lt_of_cell h0) (Nat.le_refl _) (fun y hy => by
      simp only [List.mem_cons, List.not_mem_nil, or_false] at hy
      obtain rfl | rfl := hy
      · exact hr
      · exact hv)
  rw [show txts [r, v] = txt r ++ txt v from by simp [txts]] at this
  exact this

set_option maxHeartbeats 8000000 in
set_option maxRecDepth 100000 in
theorem jLay_any (r : Rz) (w : World) (h : okR r = true) :
    Calls Tryz.prog 53 #[rzV r] w fun x w' => x = .returned (.string (bstr (layR r))) ∧ Below w.heap.size w w' := by
  obtain ⟨h1, h2, h3, h4, h5⟩ := okR_iff.1 h
  obtain ⟨e, f, ro, va, ve⟩ := r
  simp only at h1 h2 h3 h4 h5
  obtain ⟨n, rfl⟩ : ∃ n : Nat, e = (n : Int) := ⟨e.toNat, by omega⟩
  have hwn : IntKind.u64.wrap (n : Int) = (n : Int) := by rw [IntKind.wrap_u64]; omega
  have hu1 := Lib.uvarint_length64 (x := n) (by omega)
  have hu2 := Lib.uvarint_length64 (x := ve) (by omega)
  have ht1 := txt_len (s := ro) (by omega)
  have ht2 := txt_len (s := va) (by omega)
  have hbo : (bol f).length = 1 := by cases f <;> rfl
  have hl : layR ⟨(n : Int), f, ro, va, ve⟩ = Lib.uvarint n ++ bol f ++ (txt ro ++ txt va) ++ Lib.uvarint ve := rfl
  have HL : Hid _ := hl
  clear h hl
  go_enter Tryz.func53, Tryz.ntmps53
  go_upto_region 1 with fail
  obtain ⟨w1, hw1⟩ : ∃ w1, w1 = w.alloc (.cells #[.int .i64 (n : Int), .bool f, .string (bstr ro), .string (bstr va), .int .u64 (ve : Int)] 46) := ⟨_, rfl⟩
  have hb1 : Below w.heap.size w w1 := by rw [hw1]; exact (Below.refl _ _).alloc (Nat.le_refl _) _
  have hc := (mcells (show w1.heap[w.heap.size]? = some (.cells #[.int .i64 (n : Int), .bool f, .string (bstr ro), .string (bstr va), .int .u64 (ve : Int)] 46 (0, 0)) by rw [hw1]; exact heap_alloc_new w _)).1
  have c0 : w1.cell? ⟨w.heap.size, 0, none⟩ = some (.int .i64 (n : Int)) := hc 0
  have c1 : w1.cell? ⟨w.heap.size, 1, none⟩ = some (.bool f) := hc 1
  have c2 : w1.cell? ⟨w.heap.size, 2, none⟩ = some (.string (bstr ro)) := hc 2
  have c3 : w1.cell? ⟨w.heap.size, 3, none⟩ = some (.string (bstr va)) := hc 3
  have c4 : w1.cell? ⟨w.heap.size, 4, none⟩ = some (.int .u64 (ve : Int)) := hc 4
  rw [← hw1]
  clear hc hw1
  refine wp_grow (R := RS [eqV (.pointer (some ⟨w.heap.size, 0, none⟩)), eqV (.int .i64 (n : Int)), eqV (.int .u64 (n : Int)), slV [.int .u64 (n : Int)], eqV (.string (bstr (Lib.uvarint n))),
    eqV (.pointer (some ⟨w.heap.size, 1, none⟩)), eqV (.bool f), eqV (.string (bstr (bol f))), eqV (.string (bstr (Lib.uvarint n ++ bol f))),
    eqV (.pointer (some ⟨w.heap.size, 2, none⟩)), eqV (.string (bstr ro)), eqV (.pointer (some ⟨w.heap.size, 3, none⟩)), eqV (.string (bstr va)), slV [.string (bstr ro), .string (bstr va)], eqV (.string (bstr (txt ro ++ txt va))), eqV (.string (bstr (Lib.uvarint n ++ (bol f ++ (txt ro ++ txt va))))),
    eqV (.pointer (some ⟨w.heap.size, 4, none⟩)), eqV (.int .u64 (ve : Int)), slV [.int .u64 (ve : Int)], eqV (.string (bstr (Lib.uvarint ve))), eqV (.string (bstr (layR ⟨(n : Int), f, ro, va, ve⟩))), eqV (.string (bstr (layR ⟨(n : Int), f, ro, va, ve⟩)))])
    (by kernel_rfl) (by kernel_rfl) (RS.below ?_) ?_ ?_
  · simp [lst_eqV, lst_slV]
  · refine ⟨?_, ?_, ?_, ?_, ?_, ?_, ?_, ?_, ?_, ?_, ?_, ?_, ?_, ?_, ?_, ?_, ?_, ?_, ?_, ?_, ?_, ?_, trivial⟩
    · intro a W K hb hold hd hK
      have t1 : a.tmps.getD 1 undef = .pointer (some ⟨w.heap.size, 0, none⟩) := hold 1 (by kernel_rfl)
      go_simp
      exact hK _ _ (Below.refl _ _) rfl
    · intro a W K hb hold hd hK
      have t1 : a.tmps.getD 3 undef = .pointer (some ⟨w.heap.size, 0, none⟩) := hd ⟨0, .data⟩ (by simp) rfl _ _ rfl rfl
      have c := cell_below hb c0
      go_simp
      exact hK _ _ (Below.refl _ _) rfl
    · intro a W K hb hold hd hK
      have t1 : a.tmps.getD 4 undef = .int .i64 (n : Int) := hd ⟨1, .data⟩ (by simp) rfl _ _ rfl rfl
      go_simp
      exact hK _ _ (Below.refl _ _) rfl
    · intro a W K hb hold hd hK
      have t1 : a.tmps.getD 5 undef = .int .u64 (n : Int) := hd ⟨2, .data⟩ (by simp) rfl _ _ rfl rfl
      rw [Array.getD_eq_getD_getElem?] at t1
      go_simp
      exact hK _ _ ((Below.refl _ _).alloc (Nat.le_refl _) _) (sl_new1 _ _ _)
    · intro a W K hb hold hd hK
      obtain ⟨b, t1, hbb, hc⟩ : slV [.int .u64 (n : Int)] _ _ := hd ⟨3, .data⟩ (by simp) rfl _ _ rfl rfl
      go_simp
      refine (jNum1 b 1 n W (by omega) (hc 0 (by simp))).mono ?_
      rintro e wf ⟨rfl, hbf⟩
      exact hK _ _ hbf rfl
    · intro a W K hb hold hd hK
      have t1 : a.tmps.getD 1 undef = .pointer (some ⟨w.heap.size, 0, none⟩) := hold 1 (by kernel_rfl)
      go_simp
      exact hK _ _ (Below.refl _ _) rfl
    · intro a W K hb hold hd hK
      have t1 : a.tmps.getD 8 undef = .pointer (some ⟨w.heap.size, 1, none⟩) := hd ⟨5, .data⟩ (by simp) rfl _ _ rfl rfl
      have c := cell_below hb c1
      go_simp
      exact hK _ _ (Below.refl _ _) rfl
    · intro a W K hb hold hd hK
      have t1 : a.tmps.getD 9 undef = .bool f := hd ⟨6, .data⟩ (by simp) rfl _ _ rfl rfl
      go_simp
      refine (jBool_any f W).mono ?_
      rintro e wf ⟨rfl, hbf⟩
      exact hK _ _ hbf rfl
    · intro a W K hb hold hd hK
      have t1 : a.tmps.getD 7 undef = .string (bstr (Lib.uvarint n)) := hd ⟨4, .data⟩ (by simp) rfl _ _ rfl rfl
      have t2 : a.tmps.getD 10 undef = .string (bstr (bol f)) := hd ⟨7, .data⟩ (by simp) rfl _ _ rfl rfl
      go_simp
      rw [if_neg (by omega)]
      go_simp
      exact hK _ _ (Below.refl _ _) rfl
    · intro a W K hb hold hd hK
      have t1 : a.tmps.getD 1 undef = .pointer (some ⟨w.heap.size, 0, none⟩) := hold 1 (by kernel_rfl)
      go_simp
      exact hK _ _ (Below.refl _ _) rfl
    · intro a W K hb hold hd hK
      have t1 : a.tmps.getD 12 undef = .pointer (some ⟨w.heap.size, 2, none⟩) := hd ⟨9, .data⟩ (by simp) rfl _ _ rfl rfl
      have c := cell_below hb c2
      go_simp
      exact hK _ _ (Below.refl _ _) rfl
    · intro a W K hb hold hd hK
      have t1 : a.tmps.getD 1 undef = .pointer (some ⟨w.heap.size, 0, none⟩) := hold 1 (by kernel_rfl)
      go_simp
      exact hK _ _ (Below.refl _ _) rfl
    · intro a W K hb hold hd hK
      have t1 : a.tmps.getD 14 undef = .pointer (some ⟨w.heap.size, 3, none⟩) := hd ⟨11, .data⟩ (by simp) rfl _ _ rfl rfl
      have c := cell_below hb c3
      go_simp
      exact hK _ _ (Below.refl _ _) rfl
    · intro a W K hb hold hd hK
      have t1 : a.tmps.getD 13 undef = .string (bstr ro) := hd ⟨10, .data⟩ (by simp) rfl _ _ rfl rfl
      have t2 : a.tmps.getD 15 undef = .string (bstr va) := hd ⟨12, .data⟩ (by simp) rfl _ _ rfl rfl
      rw [Array.getD_eq_getD_getElem?] at t1 t2
      go_simp
      exact hK _ _ ((Below.refl _ _).alloc (Nat.le_refl _) _) (sl_new2 _ _ _ _)
    · intro a W K hb hold hd hK
      obtain ⟨b, t1, hbb, hc⟩ : slV [.string (bstr ro), .string (bstr va)] _ _ := hd ⟨13, .data⟩ (by simp) rfl _ _ rfl rfl
      go_simp
      refine (jTxt2 b 2 ro va W (by omega) (by omega) (hc 0 (by simp)) (hc 1 (by simp))).mono ?_
      rintro e wf ⟨rfl, hbf⟩
      exact hK _ _ hbf rfl
    · intro a W K hb hold hd hK
      have t1 : a.tmps.getD 11 undef = .string (bstr (Lib.uvarint n ++ bol f)) := hd ⟨8, .data⟩ (by simp) rfl _ _ rfl rfl
      have t2 : a.tmps.getD 17 undef = .string (bstr (txt ro ++ txt va)) := hd ⟨14, .data⟩ (by simp) rfl _ _ rfl rfl
      go_simp
      rw [if_neg (by omega)]
      go_simp
      exact hK _ _ (Below.refl _ _) rfl
    · intro a W K hb hold hd hK
      have t1 : a.tmps.getD 1 undef = .pointer (some ⟨w.heap.size, 0, none⟩) := hold 1 (by kernel_rfl)
      go_simp
      exact hK _ _ (Below.refl _ _) rfl
    · intro a W K hb hold hd hK
      have t1 : a.tmps.getD 19 undef = .pointer (some ⟨w.heap.size, 4, none⟩) := hd ⟨16, .data⟩ (by simp) rfl _ _ rfl rfl
      have c := cell_below hb c4
      go_simp
      exact hK _ _ (Below.refl _ _) rfl
    · intro a W K hb hold hd hK
      have t1 : a.tmps.getD 20 undef = .int .u64 (ve : Int) := hd ⟨17, .data⟩ (by simp) rfl _ _ rfl rfl
      rw [Array.getD_eq_getD_getElem?] at t1
      go_simp
      exact hK _ _ ((Below.refl _ _).alloc (Nat.le_refl _) _) (sl_new1 _ _ _)
    · intro a W K hb hold hd hK
      obtain ⟨b, t1, hbb, hc⟩ : slV [.int .u64 (ve : Int)] _ _ := hd ⟨18, .data⟩ (by simp) rfl _ _ rfl rfl
      go_simp
      refine (jNum1 b 1 ve W (by omega) (hc 0 (by simp))).mono ?_
      rintro e wf ⟨rfl, hbf⟩
      exact hK _ _ hbf rfl
    · intro a W K hb hold hd hK
      have t1 : a.tmps.getD 18 undef = .string (bstr (Lib.uvarint n ++ (bol f ++ (txt ro ++ txt va)))) := hd ⟨15, .data⟩ (by simp) rfl _ _ rfl rfl
      have t2 : a.tmps.getD 22 undef = .string (bstr (Lib.uvarint ve)) := hd ⟨19, .data⟩ (by simp) rfl _ _ rfl rfl
      go_simp
      rw [if_neg (by omega)]
      go_simp
      exact hK _ _ (Below.refl _ _) (by rw [HL.out]; simp only [List.append_assoc]; rfl)
    · intro a W K hb hold hd hK
      have t1 : a.tmps.getD 23 undef = .string (bstr (layR ⟨(n : Int), f, ro, va, ve⟩)) := hd ⟨20, .data⟩ (by simp) rfl _ _ rfl rfl
      go_simp
      exact hK _ _ (Below.refl _ _) rfl
  · intro a' w' hb hdf hts hold hnew
    have t2 : a'.tmps.getD 2 undef = .string (bstr (layR ⟨(n : Int), f, ro, va, ve⟩)) := hnew 21 _ 2 rfl rfl
    obtain ⟨t, d⟩ := a'
    obtain rfl : d = [] := hdf
    simp only at t2
    clear hold hnew hts
    go_wp2
    go_ret
    exact ⟨congrArg Ending.returned t2, bel_call hb (bel_drew hb1)⟩

end Go.Proofs.YtbdbefgfejdbjaaGreat
