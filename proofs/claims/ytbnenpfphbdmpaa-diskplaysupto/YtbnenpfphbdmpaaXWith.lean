/-
  The contracts of the document's with, without, Of.
-/
import Derived.Test.YtbnenpfphbdmpaaXRef
import Derived.Laws.OwnMore
namespace Go.Proofs.Ytbnenpfphbdmpaa
open Go.RowKit
attribute [local go_sem] size_bstr toList_bstr append_bstr

/-- A row appended to one that the call owns, as a run. -/
theorem run_append_f {w : World} (ty : TypeId) (base : Nat) (v : Value) (xs : List F3) (hown : w.ownsRow base 35 3 v xs.length (fcells xs))
    (q : Option Addr) (cap : Nat) (ds : List F3) (hA : FArg w q cap ds) (hbytes : (xs.length + ds.length) * 40 ≤ 140737488355328) (hbase : base ≤ w.heap.size) :
    ∃ v' w', (Builtin.append_ #[25, 25] ty #[v, .slice q ds.length cap]).run Try.prog w = .ok v' w' ∧ w'.ownsRow base 35 3 v' (xs ++ ds).length (fcells (xs ++ ds)) ∧ Below base w w' := by
  obtain ⟨i0, hi, hz0, hz1, hz2⟩ := info_parts Try.infoFile
  cases q with
  | none =>
    obtain ⟨rfl, rfl⟩ := hA.nil rfl
    refine ⟨v, w, run_append_owned_none (P := Try.prog) (w := w) base 25 ty 35 i0 3 Try.underlying25 hi v _ _ hown, ?_, Below.refl _ _⟩
    rw [List.append_nil]
    exact hown
  | some ad =>
    have hnews : ∀ j u, (fcells ds)[j]? = some u → w.cell? (ad.add j) = some u := by
      intro j u hj
      have h0 : 0 < ds.length := by
        by_cases h : 0 < ds.length
        · exact h
        · have : ds = [] := List.eq_nil_of_length_eq_zero (by omega)
          subst this
          simp [fcells] at hj
      obtain ⟨b, off, e, _, hR⟩ := hA.at_ h0
      cases e
      exact hR.cells j u hj
    obtain ⟨v', w', hr, h2, h3, _⟩ := run_append_own (P := Try.prog) w base 25 ty 35 i0 (.agg #[.string ⟨#[]⟩, .string ⟨#[]⟩, .int .i64 0]) 3 40 Try.underlying25 hi hz0 hz1 hz2 rfl (by decide) v _ _ hown ad ds.length cap (fcells ds) (fcells_length ds) hnews (fcells_one ds) (by unfold maxLen; omega) hbytes hbase
    refine ⟨v', w', hr, ?_, (Below.refl _ _).grown h3 hbase (fun k hk => (hown.lt k hk).1)⟩
    rw [List.length_append, fcells_append]
    exact h2
theorem set_far (w : World) {a b : Nat} (h : b ≠ a) (o o' : Nat) (v : Value) : (w.setCell ⟨a, o, none⟩ v).cell? ⟨b, o', none⟩ = w.cell? ⟨b, o', none⟩ := World.cell?_of_block (a := ⟨b, o', none⟩) (Below.heap_setCell _ _ _ _ h)
/-- Two cells of a block of its own are written. -/
abbrev set2 (W : World) (g : Nat) (x y : Value) : World := (W.setCell ⟨g, 0, none⟩ x).setCell ⟨g, 1, none⟩ y
theorem set2_block {W : World} {g : Nat} {a b : Value} {t : TypeId} (h : W.heap[g]? = some (.cells #[a, b] t (0, 0))) (x y : Value) : (set2 W g x y).heap[g]? = some (.cells #[x, y] t (0, 0)) := by
  have h1 := block_set h 0 x
  have h2 := block_set h1 1 y
  exact h2
theorem set2_other (W : World) {g i : Nat} (h : i ≠ g) (x y : Value) : (set2 W g x y).heap[i]? = W.heap[i]? := (Below.heap_setCell _ _ _ _ h).trans (Below.heap_setCell _ _ _ _ h)
theorem set2_below {B : Nat} {w0 W : World} {g : Nat} (h : Below B w0 W) (hg : B ≤ g) (x y : Value) : Below B w0 (set2 W g x y) := (h.setCell (p := ⟨g, 0, none⟩) hg x).setCell (p := ⟨g, 1, none⟩) hg y
theorem FArg.set2 {W : World} {q : Option Addr} {cap : Nat} {P : List F3} (h : FArg W q cap P) {g : Nat} (hg : ∀ b off, q = some ⟨b, off, none⟩ → b ≠ g) (x y : Value) : FArg (set2 W g x y) q cap P :=
  ⟨by
    rcases h.or_ with h1 | ⟨b, off, h1, h2, h3⟩
    · exact Or.inl h1
    · exact Or.inr ⟨b, off, h1, h2.block (set2_other W (hg b off h1) x y), fun i hi => (h3 i hi).block (set2_other W (hg b off h1) x y)⟩, h.le⟩
theorem step_app_f {w : World} {ops : Array Oper} {o : Oper} {a : Act} {K : Act → World → Prop} {Q : Exit → Act → World → Prop} {E : Prop} (hgd : o.guard = none) (s x : Operand)
    (ho : o.op = .call { callee := .builtin .append, args := #[s, x], argTypes := #[25, 25] }) (v u : Value) (hs : a.eval s = v) (hx : a.eval x = u) (v' : Value) (w' : World)
    (hrun : (Builtin.append_ #[25, 25] o.type #[v, u]).run Try.prog w = .ok v' w') (h : K (a.put o.dst v') w') :
    if Region.wanted o (yielded ops a.tmps) = true then Oper.wp Try.prog o a w K Q else E := by
  have hw : Region.wanted o (yielded ops a.tmps) = true := by simp [Region.wanted, hgd]
  rw [if_pos hw]
  unfold Oper.wp execOp
  simp only [ho, resolve, invoke, builtin, Sem.run_bind, Sem.run_pure, Result.andThen_ok, List.map_toArray, List.map_cons, List.map_nil, hs, hx, hrun]
  exact h
theorem FArg.one (w : World) (f : F3) : FArg (w.alloc (.cells #[.string (bstr f.1), .string (bstr f.2.1), .int .i64 (f.2.2 : Int)] 35)) (some ⟨w.heap.size, 0, none⟩) 1 [f] := by
  have hb := heap_alloc_new w (.cells #[.string (bstr f.1), .string (bstr f.2.1), .int .i64 (f.2.2 : Int)] 35 (0, 0))
  refine ⟨Or.inr ⟨w.heap.size, 0, rfl, ⟨_, hb⟩, fun i hi => ?_⟩, by simp⟩
  have : i = 0 := by simpa using hi
  subst this
  have k := (cells_block hb).1
  exact ⟨k 0, k 1, k 2⟩
/-- 'P[:k]' and 'P[k:]'. -/
theorem FArg.take {w : World} {q : Option Addr} {cap : Nat} {P : List F3} (h : FArg w q cap P) (k : Nat) : FArg w q cap (P.take k) :=
  ⟨by
    rcases h.or_ with ⟨h1, rfl, h2⟩ | ⟨b, off, h1, h2, h3⟩
    · exact Or.inl ⟨h1, by simp, h2⟩
    · exact Or.inr ⟨b, off, h1, h2, h3.take k⟩, by have := h.le; rw [List.length_take]; omega⟩
theorem FArg.drop {w : World} {b off cap : Nat} {P : List F3} (h : FArg w (some ⟨b, off, none⟩) cap P) (k : Nat) : FArg w (if cap = k then some ⟨b, off, none⟩ else some ⟨b, off + k * 3, none⟩) (cap - k) (P.drop k) :=
  ⟨by
    rcases h.or_ with ⟨h1, _⟩ | ⟨b', off', h1, h2, h3⟩
    · cases h1
    · cases h1
      by_cases hc : cap = k
      · rw [if_pos hc]
        refine Or.inr ⟨b, off, rfl, h2, ?_⟩
        have : P.drop k = [] := List.drop_eq_nil_of_le (by have := h.le; omega)
        rw [this]
        exact fun i hi => by simp at hi
      · rw [if_neg hc]
        exact Or.inr ⟨b, off + k * 3, rfl, h2, h3.drop k⟩, by have := h.le; rw [List.length_drop]; omega⟩
theorem FArg.drew {w : World} {q : Option Addr} {cap : Nat} {P : List F3} (h : FArg w q cap P) : FArg w.drew q cap P := h.below ((Below.refl _ _).drew)

set_option maxHeartbeats 4000000 in
set_option maxRecDepth 100000 in
theorem Rwith_any (R cap : Nat) (q : Option Addr) (P : List F3) (f : F3) (w : World) (hP : FArg w q cap P) (hs : SrtP P) (hn : P.length ≤ 1000000) :
    Calls Try.prog 43 #[rdV R q P.length cap, flV f] w fun e w' => ∃ q' cap', e = .returned (rdV R q' (wthP f P).length cap') ∧ FArg w' q' cap' (wthP f P) ∧ Below w.heap.size w w' := by
  obtain ⟨n, bs, sy0⟩ := f
  have hb0 : Below w.heap.size w (((w.alloc (.cells #[.int .i64 (R : Int), .slice q P.length cap] 27)).alloc (.cells #[.string (bstr n), .string (bstr bs), .int .i64 (sy0 : Int)] 35)).alloc (.cells #[.int .i64 0, .slice none 0 0] 27)) := (((Below.refl _ _).alloc (Nat.le_refl _) _).alloc (by simp) _).alloc (by simp; omega) _
  go_enter Try.func43, Try.ntmps43
  go_wp2_with fail
  have b0 : (((w.alloc (.cells #[.int .i64 (R : Int), .slice q P.length cap] 27)).alloc (.cells #[.string (bstr n), .string (bstr bs), .int .i64 (sy0 : Int)] 35)).alloc (.cells #[.int .i64 0, .slice none 0 0] 27)).heap[w.heap.size]? = some (.cells #[.int .i64 (R : Int), .slice q P.length cap] 27 (0, 0)) := ((MapKept.heap_alloc _ _).2 w.heap.size (by simp; omega)).trans (((MapKept.heap_alloc _ _).2 w.heap.size (by simp)).trans (boxed w _ _ _))
  have b1 : (((w.alloc (.cells #[.int .i64 (R : Int), .slice q P.length cap] 27)).alloc (.cells #[.string (bstr n), .string (bstr bs), .int .i64 (sy0 : Int)] 35)).alloc (.cells #[.int .i64 0, .slice none 0 0] 27)).heap[w.heap.size + 1]? = some (.cells #[.string (bstr n), .string (bstr bs), .int .i64 (sy0 : Int)] 35 (0, 0)) := ((MapKept.heap_alloc _ _).2 (w.heap.size + 1) (by simp)).trans (by
    have := heap_alloc_new (w.alloc (.cells #[.int .i64 (R : Int), .slice q P.length cap] 27)) (.cells #[.string (bstr n), .string (bstr bs), .int .i64 (sy0 : Int)] 35 (0, 0))
    simpa using this)
  have b2 : (((w.alloc (.cells #[.int .i64 (R : Int), .slice q P.length cap] 27)).alloc (.cells #[.string (bstr n), .string (bstr bs), .int .i64 (sy0 : Int)] 35)).alloc (.cells #[.int .i64 0, .slice none 0 0] 27)).heap[w.heap.size + 1 + 1]? = some (.cells #[.int .i64 0, .slice none 0 0] 27 (0, 0)) := by
    have := heap_alloc_new ((w.alloc (.cells #[.int .i64 (R : Int), .slice q P.length cap] 27)).alloc (.cells #[.string (bstr n), .string (bstr bs), .int .i64 (sy0 : Int)] 35)) (.cells #[.int .i64 0, .slice none 0 0] 27 (0, 0))
    simpa using this
  have hP0 := hP.below hb0
  generalize ((w.alloc (.cells #[.int .i64 (R : Int), .slice q P.length cap] 27)).alloc (.cells #[.string (bstr n), .string (bstr bs), .int .i64 (sy0 : Int)] 35)).alloc (.cells #[.int .i64 0, .slice none 0 0] 27) = W at *
  have hle := posP_le n P
  have hlt0 := (Array.getElem?_eq_some_iff.1 b0).1
  have hlt1 := (Array.getElem?_eq_some_iff.1 b1).1
  have hlt2 := (Array.getElem?_eq_some_iff.1 b2).1
  refine (Rfind_any R cap q P n _ hP0 hs hn).mono ?_
  rintro e w1 ⟨rfl, hb1⟩
  have hP1 := hP0.below hb1
  have k0 : ∀ w', Below w1.heap.size w1 w' → w'.cell? ⟨w.heap.size, 0, none⟩ = some (.int .i64 (R : Int)) ∧ w'.cell? ⟨w.heap.size, 1, none⟩ = some (.slice q P.length cap) ∧ w'.cell? ⟨w.heap.size + 1, 0, none⟩ = some (.string (bstr n)) ∧ w'.cell? ⟨w.heap.size + 1, 1, none⟩ = some (.string (bstr bs)) ∧ w'.cell? ⟨w.heap.size + 1, 2, none⟩ = some (.int .i64 (sy0 : Int)) ∧ w'.cell? ⟨w.heap.size + 1 + 1, 0, none⟩ = some (.int .i64 0) ∧ w'.cell? ⟨w.heap.size + 1 + 1, 1, none⟩ = some (.slice none 0 0) ∧ (∀ o, w'.frozen? ⟨w.heap.size + 1 + 1, o, none⟩ = false) := fun w' hb' => by
    have hsz := hb1.size
    have a0 := cells_block ((hb'.block _ (by omega)).trans ((hb1.block _ hlt0).trans b0))
    have a1 := cells_block ((hb'.block _ (by omega)).trans ((hb1.block _ hlt1).trans b1))
    have a2 := cells_block ((hb'.block _ (by omega)).trans ((hb1.block _ hlt2).trans b2))
    exact ⟨a0.1 0, a0.1 1, a1.1 0, a1.1 1, a1.1 2, a2.1 0, a2.1 1, a2.2⟩
  have hbb : ∀ w', Below w1.heap.size w1 w' → Below w.heap.size w w' := fun w' hb' => b_step (b_step hb0 hb1 (Nat.le_refl _)) hb' (Nat.le_refl _)
  have hres : (wthP (n, bs, sy0) P) = P.take (posP n P) ++ (n, bs, sy0) :: P.drop (posP n P + if isP n P = true then 1 else 0) := wthP_eq (n, bs, sy0) hs
  have hpn : posP n P + (if isP n P = true then 1 else 0) ≤ P.length := by
    have hi := posP_is (s := n) hs
    by_cases h1 : posP n P < P.length
    · split <;> omega
    · rw [List.getElem?_eq_none (by omega)] at hi
      rw [hi]
      simp only
      simp
      omega
  have hblk2 := (hb1.block _ hlt2).trans b2
  have hw1s : w.heap.size + 1 + 1 < w1.heap.size := Nat.lt_of_lt_of_le hlt2 hb1.size
  clear hb0 hb1 hP0 hP b0 b1 b2
  generalize posP n P = p at *
  obtain ⟨c0, c1, c2, c3, c4, c5, c6, c7⟩ := k0 w1 (Below.refl _ _)
  have hown0 : w1.ownsRow w1.heap.size 35 3 (.slice none 0 0) ([] : List F3).length (fcells []) := World.ownsRow_nil _ _ _ _
  have hT : (P.take p).length = p := by rw [List.length_take]; omega
  have hpi : (p : Int) ≤ (cap : Int) := by have := hP1.le; omega
  have kb : ∀ w', Below w1.heap.size w1 w' → w'.heap[w.heap.size + 1 + 1]? = some (.cells #[.int .i64 0, .slice none 0 0] 27 (0, 0)) := fun w' hb' => (hb'.block _ (by omega)).trans hblk2
  have hfin : ∀ (v : Value) (w' : World), w'.ownsRow w1.heap.size 35 3 v (wthP (n, bs, sy0) P).length (fcells (wthP (n, bs, sy0) P)) → Below w1.heap.size w1 w' → ∃ q' cap', v = .slice q' (wthP (n, bs, sy0) P).length cap' ∧ FArg (set2 w' (w.heap.size + 1 + 1) (.int .i64 (R : Int)) (.slice q' (wthP (n, bs, sy0) P).length cap')) q' cap' (wthP (n, bs, sy0) P) ∧ Below w.heap.size w (set2 w' (w.heap.size + 1 + 1) (.int .i64 (R : Int)) (.slice q' (wthP (n, bs, sy0) P).length cap')) ∧ (set2 w' (w.heap.size + 1 + 1) (.int .i64 (R : Int)) (.slice q' (wthP (n, bs, sy0) P).length cap')).cell? ⟨w.heap.size + 1 + 1, 0, none⟩ = some (.int .i64 (R : Int)) ∧ (set2 w' (w.heap.size + 1 + 1) (.int .i64 (R : Int)) (.slice q' (wthP (n, bs, sy0) P).length cap')).cell? ⟨w.heap.size + 1 + 1, 1, none⟩ = some (.slice q' (wthP (n, bs, sy0) P).length cap') := fun v w' ho hb' => by
    obtain ⟨q', cap', e, hF, hge⟩ := FArg.of_own ho
    have hz := cells_block (set2_block (kb w' hb') (.int .i64 (R : Int)) (.slice q' (wthP (n, bs, sy0) P).length cap'))
    refine ⟨q', cap', e, hF.set2 (fun b off hq => ?_) _ _, set2_below (hbb w' hb') (by omega) _ _, hz.1 0, hz.1 1⟩
    have := hge b (by rw [e, hq]; rfl)
    omega
  have hb40 : (P.length + 2) * 40 ≤ 140737488355328 := by omega
  cases hisn : isP n P with
  | false =>
    rw [hisn] at hres hpn
    simp only [Bool.false_eq_true, if_false, Nat.add_zero] at hres hpn
    go_wp2_with (at_builtin; first | (refine wpList_append_f rfl _ _ rfl w1.heap.size _ [] rfl hown0 q cap (P.take p) (by rw [hT]; rfl) (hP1.take p) (by rw [hT]; simp; omega) (Nat.le_refl _) ?_; intro v1 w2 hv1 hb2; rw [List.nil_append] at hv1; clear c0 c1 c2 c3 c4 c5 c6 c7; obtain ⟨c0, c1, c2, c3, c4, c5, c6, c7⟩ := k0 w2 hb2) | (refine wpList_append_f rfl _ _ rfl w1.heap.size _ (P.take p) rfl (hv1.alloc _) _ 1 [(n, bs, sy0)] rfl (FArg.one w2 (n, bs, sy0)) (by rw [hT]; simp; omega) (by have := hb2.size; simp; omega) ?_; intro v2 w3 hv2 hb3))
    have hb13 : Below w1.heap.size w1 w3 := (hb2.alloc hb2.size _).trans hb3
    clear c0 c1 c2 c3 c4 c5 c6 c7 hv1 hb2 hb3
    obtain ⟨c0, c1, c2, c3, c4, c5, c6, c7⟩ := k0 w3 hb13
    have c8 := c7 0
    have c9 := c7 1
    have hP3 := hP1.below hb13
    rcases hP3.or_ with ⟨rfl, rfl, rfl⟩ | ⟨b, off, rfl, _, _⟩
    · have hp0 : p = 0 := by simpa using hle
      subst hp0
      simp only [List.length_nil] at *
      obtain ⟨v3, w4, hrun, hv3, hb4⟩ := run_append_f (w := w3.drew) 25 w1.heap.size v2 (([] : List F3).take 0 ++ [(n, bs, sy0)]) hv2 none (0) (([] : List F3)) ⟨Or.inl ⟨rfl, rfl, rfl⟩, Nat.le_refl _⟩ (by simp) hb13.size
      have hb14 : Below w1.heap.size w1 w4 := hb13.drew.trans hb4
      have hdl : (([] : List F3)).length = 0 := rfl
      rw [hdl] at hrun
      have hlist : ([] : List F3).take 0 ++ [(n, bs, sy0)] ++ ([] : List F3) = wthP (n, bs, sy0) [] := by rw [hres]; simp
      rw [hlist] at hv3
      obtain ⟨q', cap', rfl, hF, hbw, r0, r1⟩ := hfin _ _ hv3 hb14
      clear c0 c1 c2 c3 c4 c5 c6 c7 c8 c9
      obtain ⟨c0, c1, c2, c3, c4, c5, c6, c7⟩ := k0 w3 hb13
      obtain ⟨d0, d1, d2, d3, d4, d5, d6, d7⟩ := k0 w4 hb14
      have c8 := c7 0
      have c9 := c7 1
      have d8 := d7 0
      have d9 := d7 1
      have hatc : ((0 : Nat) : Int) ≤ (0 : Int) := by exact Int.le_refl _
      clear hfin hbb k0 kb hres hlist hv2 hv3 hown0 hP1 hP3
      have HF : Hid _ := hF
      clear hF
      generalize hnl : (wthP (n, bs, sy0) []).length = nl at *
      have e0 : ((w4.setCell ⟨w.heap.size + 1 + 1, 0, none⟩ (.int .i64 (R : Int))).setCell ⟨w.heap.size + 1 + 1, 1, none⟩ (.slice q' nl cap')).cell? ⟨w.heap.size, 0, none⟩ = some (.int .i64 (R : Int)) := by rw [set_far _ (by omega), set_far _ (by omega)]; exact d0
      have e1 : ((w4.setCell ⟨w.heap.size + 1 + 1, 0, none⟩ (.int .i64 (R : Int))).setCell ⟨w.heap.size + 1 + 1, 1, none⟩ (.slice q' nl cap')).cell? ⟨w.heap.size, 1, none⟩ = some (.slice none 0 0) := by rw [set_far _ (by omega), set_far _ (by omega)]; exact d1
      go_region_held3 (fun w' => w'.cell? ⟨w.heap.size, 0, none⟩ = some (.int .i64 (R : Int)) ∧ w'.cell? ⟨w.heap.size, 1, none⟩ = some (.slice none 0 0)) (first | with_reducible exact ⟨c0, c1⟩ | with_reducible exact ⟨d0, d1⟩ | with_reducible exact ⟨e0, e1⟩ | go_keep)
        ((refine step_app_f (by rfl) _ _ (by rfl) _ _ (by rfl) (by rfl) _ _ hrun ?_))
      all_goals
        go_wp2
        all_goals exact bodyPost_ret (v := rdV R q' nl cap') (by simp [results, Try.results43, go_sem, r0, r1]) rfl ⟨q', cap', by first | rfl | rw [hnl], HF.out, hbw⟩
    · obtain ⟨v3, w4, hrun, hv3, hb4⟩ := run_append_f (w := w3.drew) 25 w1.heap.size v2 (P.take p ++ [(n, bs, sy0)]) hv2 (if cap = p then some ⟨b, off, none⟩ else some ⟨b, off + (p) * 3, none⟩) (cap - (p)) (P.drop (p)) (hP3.drop (p)).drew (by simp only [List.length_append, hT, List.length_drop, List.length_cons, List.length_nil]; omega) hb13.size
      have hb14 : Below w1.heap.size w1 w4 := hb13.drew.trans hb4
      have hdl : (P.drop (p)).length = P.length - (p) := List.length_drop
      rw [hdl] at hrun
      have hlist : P.take p ++ [(n, bs, sy0)] ++ P.drop (p) = wthP (n, bs, sy0) P := by rw [hres]; simp
      rw [hlist] at hv3
      obtain ⟨q', cap', rfl, hF, hbw, r0, r1⟩ := hfin _ _ hv3 hb14
      clear c0 c1 c2 c3 c4 c5 c6 c7 c8 c9
      obtain ⟨c0, c1, c2, c3, c4, c5, c6, c7⟩ := k0 w3 hb13
      obtain ⟨d0, d1, d2, d3, d4, d5, d6, d7⟩ := k0 w4 hb14
      have c8 := c7 0
      have c9 := c7 1
      have d8 := d7 0
      have d9 := d7 1
      have hatc : ((p : Nat) : Int) ≤ (P.length : Int) := by omega
      clear hfin hbb k0 kb hres hlist hv2 hv3 hown0 hP1 hP3
      have HF : Hid _ := hF
      clear hF
      generalize hnl : (wthP (n, bs, sy0) P).length = nl at *
      have e0 : ((w4.setCell ⟨w.heap.size + 1 + 1, 0, none⟩ (.int .i64 (R : Int))).setCell ⟨w.heap.size + 1 + 1, 1, none⟩ (.slice q' nl cap')).cell? ⟨w.heap.size, 0, none⟩ = some (.int .i64 (R : Int)) := by rw [set_far _ (by omega), set_far _ (by omega)]; exact d0
      have e1 : ((w4.setCell ⟨w.heap.size + 1 + 1, 0, none⟩ (.int .i64 (R : Int))).setCell ⟨w.heap.size + 1 + 1, 1, none⟩ (.slice q' nl cap')).cell? ⟨w.heap.size, 1, none⟩ = some (.slice (some ⟨b, off, none⟩) P.length cap) := by rw [set_far _ (by omega), set_far _ (by omega)]; exact d1
      go_region_held3 (fun w' => w'.cell? ⟨w.heap.size, 0, none⟩ = some (.int .i64 (R : Int)) ∧ w'.cell? ⟨w.heap.size, 1, none⟩ = some (.slice (some ⟨b, off, none⟩) P.length cap)) (first | with_reducible exact ⟨c0, c1⟩ | with_reducible exact ⟨d0, d1⟩ | with_reducible exact ⟨e0, e1⟩ | go_keep)
        ((refine step_app_f (by rfl) _ _ (by rfl) _ _ (by rfl) (by rfl) _ _ hrun ?_))
      all_goals
        go_wp2
        all_goals exact bodyPost_ret (v := rdV R q' nl cap') (by simp [results, Try.results43, go_sem, r0, r1]) rfl ⟨q', cap', by first | rfl | rw [hnl], HF.out, hbw⟩
  | true =>
    rw [hisn] at hres hpn
    simp only [if_true] at hres hpn
    go_wp2_with (at_builtin; first | (refine wpList_append_f rfl _ _ rfl w1.heap.size _ [] rfl hown0 q cap (P.take p) (by rw [hT]; rfl) (hP1.take p) (by rw [hT]; simp; omega) (Nat.le_refl _) ?_; intro v1 w2 hv1 hb2; rw [List.nil_append] at hv1; clear c0 c1 c2 c3 c4 c5 c6 c7; obtain ⟨c0, c1, c2, c3, c4, c5, c6, c7⟩ := k0 w2 hb2) | (refine wpList_append_f rfl _ _ rfl w1.heap.size _ (P.take p) rfl (hv1.alloc _) _ 1 [(n, bs, sy0)] rfl (FArg.one w2 (n, bs, sy0)) (by rw [hT]; simp; omega) (by have := hb2.size; simp; omega) ?_; intro v2 w3 hv2 hb3))
    have hb13 : Below w1.heap.size w1 w3 := (hb2.alloc hb2.size _).trans hb3
    clear c0 c1 c2 c3 c4 c5 c6 c7 hv1 hb2 hb3
    obtain ⟨c0, c1, c2, c3, c4, c5, c6, c7⟩ := k0 w3 hb13
    have c8 := c7 0
    have c9 := c7 1
    have hP3 := hP1.below hb13
    rcases hP3.or_ with ⟨rfl, rfl, rfl⟩ | ⟨b, off, rfl, _, _⟩
    · cases hisn
    · have hcast : (p : Int) + 1 = ((p + 1 : Nat) : Int) := by simp
      rw [hcast]
      clear hcast
      generalize p + 1 = m at *
      obtain ⟨v3, w4, hrun, hv3, hb4⟩ := run_append_f (w := w3.drew) 25 w1.heap.size v2 (P.take p ++ [(n, bs, sy0)]) hv2 (if cap = m then some ⟨b, off, none⟩ else some ⟨b, off + (m) * 3, none⟩) (cap - (m)) (P.drop (m)) (hP3.drop (m)).drew (by simp only [List.length_append, hT, List.length_drop, List.length_cons, List.length_nil]; omega) hb13.size
      have hb14 : Below w1.heap.size w1 w4 := hb13.drew.trans hb4
      have hdl : (P.drop (m)).length = P.length - (m) := List.length_drop
      rw [hdl] at hrun
      have hlist : P.take p ++ [(n, bs, sy0)] ++ P.drop (m) = wthP (n, bs, sy0) P := by rw [hres]; simp
      rw [hlist] at hv3
      obtain ⟨q', cap', rfl, hF, hbw, r0, r1⟩ := hfin _ _ hv3 hb14
      clear c0 c1 c2 c3 c4 c5 c6 c7 c8 c9
      obtain ⟨c0, c1, c2, c3, c4, c5, c6, c7⟩ := k0 w3 hb13
      obtain ⟨d0, d1, d2, d3, d4, d5, d6, d7⟩ := k0 w4 hb14
      have c8 := c7 0
      have c9 := c7 1
      have d8 := d7 0
      have d9 := d7 1
      have hatc : ((m : Nat) : Int) ≤ (P.length : Int) := by omega
      clear hfin hbb k0 kb hres hlist hv2 hv3 hown0 hP1 hP3
      have HF : Hid _ := hF
      clear hF
      generalize hnl : (wthP (n, bs, sy0) P).length = nl at *
      have e0 : ((w4.setCell ⟨w.heap.size + 1 + 1, 0, none⟩ (.int .i64 (R : Int))).setCell ⟨w.heap.size + 1 + 1, 1, none⟩ (.slice q' nl cap')).cell? ⟨w.heap.size, 0, none⟩ = some (.int .i64 (R : Int)) := by rw [set_far _ (by omega), set_far _ (by omega)]; exact d0
      have e1 : ((w4.setCell ⟨w.heap.size + 1 + 1, 0, none⟩ (.int .i64 (R : Int))).setCell ⟨w.heap.size + 1 + 1, 1, none⟩ (.slice q' nl cap')).cell? ⟨w.heap.size, 1, none⟩ = some (.slice (some ⟨b, off, none⟩) P.length cap) := by rw [set_far _ (by omega), set_far _ (by omega)]; exact d1
      go_region_held3 (fun w' => w'.cell? ⟨w.heap.size, 0, none⟩ = some (.int .i64 (R : Int)) ∧ w'.cell? ⟨w.heap.size, 1, none⟩ = some (.slice (some ⟨b, off, none⟩) P.length cap)) (first | with_reducible exact ⟨c0, c1⟩ | with_reducible exact ⟨d0, d1⟩ | with_reducible exact ⟨e0, e1⟩ | go_keep)
        ((refine step_app_f (by rfl) _ _ (by rfl) _ _ (by rfl) (by rfl) _ _ hrun ?_))
      all_goals
        go_wp2
        all_goals exact bodyPost_ret (v := rdV R q' nl cap') (by simp [results, Try.results43, go_sem, r0, r1]) rfl ⟨q', cap', by first | rfl | rw [hnl], HF.out, hbw⟩

end Go.Proofs.Ytbnenpfphbdmpaa
