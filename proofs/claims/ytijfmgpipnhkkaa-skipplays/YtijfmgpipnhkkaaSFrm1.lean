/-
  Going through an iterator of a list.
-/
import Derived.Test.YtijfmgpipnhkkaaSFrom
import Derived.Shelf.RegionOpen
namespace Go.Proofs.Ytijfmgpipnhkkaa
open Go.RowKit
attribute [local go_sem] Oper.semAt_some
attribute [local go_sem] size_bstr toList_bstr ls_def

/-- The blocks of F and those of X. -/
def Un (F X : Nat → Prop) : Nat → Prop := fun i => F i ∨ X i
/-- What is asked of one who is told the cells L, one by one, by a walk of the list l. -/
def Tld (l hd lr : Nat) (L : List Cl) (J : List Tw → (Nat → Prop) → Nat → World → Prop) (Jx : List Tw → (Nat → Prop) → World → Prop) : Prop :=
  ∀ m k X T F j c W, L[j]? = some c → mayCl c = true → (∀ i, X i → i < W.heap.size ∧ ¬ F i) → Stt l hd k T F (L.drop (j + 1)) W → J T (Un F X) j W → YieldAt Fence.wide m Try.prog lr #[clV c] W fun e W' =>
    (e = .returned (.bool true) ∧ ∃ T' F', Stt l hd k T' F' (L.drop (j + 1)) W' ∧ J T' (Un F' X) (j + 1) W' ∧ ∀ i, X i → ¬ F' i ∧ W'.heap[i]? = W.heap[i]?) ∨
    (e = .returned (.bool false) ∧ ∃ T' F' R', Stt l hd k T' F' R' W' ∧ Jx T' (Un F' X) W' ∧ ∀ i, X i → ¬ F' i ∧ W'.heap[i]? = W.heap[i]?)
def Abx (Jx : List Tw → (Nat → Prop) → World → Prop) : Prop := ∀ T F F' W W', Jx T F W → Kp W W' F → (∀ i, F' i → F i ∨ W.heap.size ≤ i) → Jx T F' W'

theorem Kp.put {w w' : World} {S : Nat → Prop} (h : Kp w w' S) {b : Nat} (o : Obj) (hb : S b ∨ w.heap.size ≤ b) : Kp w (w'.putObj b o) S := by
  refine h.trans (S' := fun i => i = b) ⟨rfl, rfl, rfl, by simp, fun i _ hi => World.putObj_heap_other hi⟩ (fun i e => by subst e; exact hb)

theorem two_ways {e : Ending} {P Q : Prop} (h : (e = .returned (.bool true) ∧ P) ∨ (e = .returned (.bool false) ∧ Q)) : ∃ b : Bool, e = .returned (.bool b) ∧ Hid ((b = true ∧ P) ∨ (b = false ∧ Q)) := by
  rcases h with ⟨h1, h2⟩ | ⟨h1, h2⟩
  · exact ⟨true, h1, Or.inl ⟨rfl, h2⟩⟩
  · exact ⟨false, h1, Or.inr ⟨rfl, h2⟩⟩
theorem leaves_two {P : Program} {fn : Func} {tmps : Array Value} {R : Ending → World → Prop} {D f : Nat} {args : Array Value} {W : World} {v : Value} {G : World → Prop}
    (hD : W.heap[D]? = some (.deferred (some []))) (hend : CallsDIn Fence.wide 2 P f args .returning (W.putObj D (.deferred none)) fun e u' w' => u' = .returning ∧ ((∃ x, e = .returned x) ∧ G w'))
    (hres : ∀ w, (results fn tmps).run P w = .ok v w) (hR : ∀ w', G w' → R (.returned v) w') (eg : ∀ args w, (callFunc f args).run P w = .ok (.enter f args) w) :
    LeavesInM Fence.wide 3 P fn tmps R [{ target := .collected D, args := #[] }, { target := .fn (.func f) #[], args := args }] .returning W := by
  refine ⟨by simp, Or.inl ⟨D, _, rfl, run_takeDeferred hD, ?_⟩⟩
  refine ⟨by simp, Or.inr ⟨fun h => (by cases h), .func f, #[], f, args, rfl, by simp [invoke, go_sem, eg], fun _ _ => trivial, hend.mono ?_⟩⟩
  rintro e u' w' ⟨rfl, ⟨x, rfl⟩, hg⟩
  exact ⟨v, hres w', hR w' hg⟩
/-- A loop's record, before its first round. -/
structure RecOf (RR : Loop) (tmps : Array Value) (ps : Array Tmp) (assign body : Code) : Prop where
  t : RR.tmps = tmps
  p : RR.params = ps
  a : RR.assign = assign
  b : RR.body = body
  s : RR.state = .ready
  e : RR.pending = none
theorem wp_range2 {P : Program} {n : Nat} {g : Operand} {ps : Array Tmp} {assign body : Code} {Q : Exit → Act → World → Prop} {a : Act} {w : World} {gf : Nat} {fs lb : Array Value} (h1 : 1 ≤ n)
    (hg : a.eval g = .func (.func gf) fs lb) (eg : ∀ args w, (callFunc gf args).run P w = .ok (.enter gf args) w)
    (h : ∀ RR, RecOf RR a.tmps ps assign body → Calls P gf (fs ++ #[.func (.yield (w.heap.size + 1)) #[] #[]] ++ lb) ((w.alloc (.deferred (some []))).alloc (.loop RR)) fun e W => (∃ v, e = .returned v) ∧
      ((W.heap[w.heap.size + 1]? = some (.loop RR) ∧ Q .normal { a with defers := { target := .collected w.heap.size, args := #[] } :: a.defers } (W.putObj (w.heap.size + 1) (.loop { RR with state := .exhausted }))) ∨
       ∃ c, W.heap[w.heap.size + 1]? = some (.loop { RR with state := .done, pending := some c }) ∧ c.wpIn Fence.wide n P Q { a with defers := { target := .collected w.heap.size, args := #[] } :: a.defers } (W.putObj (w.heap.size + 1) (.loop { RR with state := .exhausted, pending := some c })))) :
    (Code.rangeFunc g ps assign body).wpIn Fence.wide n P Q a w :=
  wp_range h1 hg eg fun fn => h (recd fn a ps assign body w.heap.size .ready none) ⟨rfl, rfl, rfl, rfl, rfl, rfl⟩
theorem yield_round2 {P : Program} {n l : Nat} {RR : Loop} {args tmps : Array Value} {ps : Array Tmp} {assign body : Code} {W : World} {R : Ending → World → Prop} (hl : W.heap[l]? = some (.loop RR)) (hR : RecOf RR tmps ps assign body) (hs : args.size = ps.size)
    (h : assign.wpIn (Fence.wide.inRound l) n P (Exit.then (fun a₁ w₁ => ∃ w₂, (Instr.beginRound l).run P w₁ = .ok () w₂ ∧ body.wpIn (Fence.wide.inRound l) n P (roundPost P l R) a₁ w₂) (fun _ _ _ => False))
      { tmps := (ps.zip args).foldl (fun t (p, v) => t.setIfInBounds p v) tmps, defers := [] } W) : YieldAt Fence.wide n P l args W R := by
  refine yield_round hl (by rw [hR.p]; exact hs) ?_
  rw [hR.a, hR.b, hR.t, hR.p]
  exact h

set_option maxHeartbeats 8000000 in
set_option maxRecDepth 100000 in
theorem from1_any (l hd b lr : Nat) (A B : List Tw) (v : Value) (row col : List UInt8) (w : World) (J : List Tw → (Nat → Prop) → Nat → World → Prop) (Jx : List Tw → (Nat → Prop) → World → Prop) (hab : Abd J) (habx : Abx Jx)
    (hbx : Bx w b (some ⟨l, 0, none⟩) row col) (hL : Ls w l hd (A ++ B) v []) (hA : ∀ t ∈ A, ccl t.c (plC row col) < 0) (hB : ∀ t ∈ B, 0 ≤ ccl t.c (plC row col))
    (hY : Tld l hd lr (B.map (fun t => t.c)) J Jx) (hJ : J (A ++ B) (Ow l hd (A ++ B) v) 0 w) :
    Calls Try.prog 37 #[.func (.yield lr) #[] #[], .pointer (some ⟨b, 0, none⟩), .pointer (some ⟨b + 1, 0, none⟩), .pointer (some ⟨b + 1 + 1, 0, none⟩)] w fun e W => (∃ u, e = .returned u) ∧
      ∃ T v', Ls W l hd T v' [] ∧ (J T (Ow l hd T v') B.length W ∨ Jx T (Ow l hd T v') W) := by
  have hmf : ∀ (fn : Fn) (first cap : Array Value) (w : World), (Instr.makeFunc fn first cap).run Try.prog w = .ok (.func fn first cap) w := fun _ _ _ _ => rfl
  have hnf : ∀ w : World, (binOp .eql 69 (.func (.yield lr) #[] #[]) .nilFunc).run Try.prog w = .ok (.bool false) w := fun w => by first | rfl | kernel_rfl | simp [binOp, Op.equal, Op.equalIn, Op.maxDepth, go_sem]
  have hb0 : Below w.heap.size w (w.alloc (.cells #[.func (.yield lr) #[] #[]] 69)) := (Below.refl _ _).alloc (Nat.le_refl _) _
  have hy0 : (w.alloc (.cells #[.func (.yield lr) #[] #[]] 69)).heap[w.heap.size]? = some (.cells #[.func (.yield lr) #[] #[]] 69 (0, 0)) := heap_alloc_new _ _
  have hbx0 := hbx.step hb0
  have hL0 := hL.below hb0
  generalize hw0 : w.alloc (.cells #[.func (.yield lr) #[] #[]] 69) = w0 at *
  have hyc : w0.cell? ⟨w.heap.size, 0, none⟩ = some (.func (.yield lr) #[] #[]) := by simp [World.cell?, hy0]
  obtain ⟨x0, x1, x2, _, _⟩ := hbx0.cells
  have hno := none_ok l hd w0 hL0.blk.head
  have hbe := begin_any l hd A B v row col w0 hL0 hA hB
  refine calls_marks Try.func37 rfl ?_
  simp only [Try.ntmps37, List.size_toArray, List.length_cons, List.length_nil, Nat.reduceAdd, Nat.reduceSub, Array.replicate_succ, Array.replicate_zero, List.push_toArray, List.append_toArray, List.nil_append, List.cons_append]
  gi_wp2_with (first
    | (refine ⟨trivial, ?_⟩; gi_at_call 18; refine (callsIn_wide.2 hno).mono ?_; rintro e w0 ⟨rfl, rfl⟩)
    | (refine ⟨trivial, ?_⟩; gi_at_call 38; refine (callsIn_wide.2 hbe).mono ?_; rintro e w1 ⟨k, rfl, hS1, hK1, hk1⟩; have hbx1 : w1.cell? ⟨b, 0, none⟩ = some (.pointer (some ⟨l, 0, none⟩)) := (by have hlt := hbx0.lt; have hne : ¬ Ow l hd (A ++ B) v b := hL0.other hbx0.a (by decide); have := hK1.block b (by omega) hne; simp only [World.cell?, this.trans hbx0.a]; rfl)))
  have hs0 : w0.heap.size = w.heap.size + 1 := by rw [← hw0]; simp
  have hs1 := hK1.size
  have hOw : ∀ i, Ow l hd (A ++ B) v i → i < w.heap.size := fun i hi => hL.lt hi
  have hy1 : w1.heap[w.heap.size]? = some (.cells #[.func (.yield lr) #[] #[]] 69 (0, 0)) := (hK1.block w.heap.size (by omega) (fun h => by have := hOw _ h; omega)).trans hy0
  have hK01 : Kp w w1 (Ow l hd (A ++ B) v) := (Kp.of_below _ hb0).trans hK1 (fun i hi => Or.inl hi)
  clear hno hbe hmf hyc x0 x1 x2 hbx0 hL0 hy0 hw0 hbx1 hnf hbx hK1
  refine wp_range2 (by omega) rfl (enters_of Try.func40 (by kernel_rfl) rfl) ?_
  intro RR hRR
  obtain ⟨X, hX⟩ : ∃ X : Nat → Prop, X = fun i => i = w1.heap.size ∨ i = w1.heap.size + 1 ∨ i = w.heap.size := ⟨_, rfl⟩
  have hX1 : X w1.heap.size := by rw [hX]; exact Or.inl rfl
  have hX2 : X (w1.heap.size + 1) := by rw [hX]; exact Or.inr (Or.inl rfl)
  have hX3 : X w.heap.size := by rw [hX]; exact Or.inr (Or.inr rfl)
  have hbW : Below w1.heap.size w1 ((w1.alloc (.deferred (some []))).alloc (.loop RR)) := ((Below.refl _ _).alloc (Nat.le_refl _) _).alloc (by simp) _
  have hW1 : ((w1.alloc (.deferred (some []))).alloc (.loop RR)).heap[w1.heap.size + 1]? = some (.loop RR) := by
    have := World.alloc_heap_new (w1.alloc (.deferred (some []))) (.loop RR)
    rwa [World.size_alloc] at this
  have hW2 : ((w1.alloc (.deferred (some []))).alloc (.loop RR)).heap[w1.heap.size]? = some (.deferred (some [])) := (Below.heap_alloc _ _ _ (by simp)).trans (World.alloc_heap_new w1 _)
  have hW3 := (hbW.block w.heap.size (by omega)).trans hy1
  obtain ⟨W1, hWW⟩ : ∃ W1, W1 = (w1.alloc (.deferred (some []))).alloc (.loop RR) := ⟨_, rfl⟩
  rw [← hWW] at hbW hW1 hW2 hW3 ⊢
  obtain ⟨J2, hJ2⟩ : ∃ J2 : List Tw → (Nat → Prop) → Nat → World → Prop, J2 = fun T F j W => J T (Un F X) j W ∧ W.heap[w1.heap.size + 1]? = some (.loop RR) ∧ W.heap[w1.heap.size]? = some (.deferred (some [])) ∧ W.heap[w.heap.size]? = some (.cells #[.func (.yield lr) #[] #[]] 69 (0, 0)) ∧ ∀ i, X i → ¬ F i := ⟨_, rfl⟩
  obtain ⟨Jx2, hJx2⟩ : ∃ Jx2 : List Tw → (Nat → Prop) → World → Prop, Jx2 = fun T F W => Jx T (Un F X) W ∧ W.heap[w1.heap.size + 1]? = some (.loop { RR with state := .done, pending := some .ret }) ∧ W.heap[w1.heap.size]? = some (.deferred (some [])) ∧ ∀ i, X i → ¬ F i := ⟨_, rfl⟩
  have hab2 : Abd J2 := by
    intro T F F' j W W' hj hK hF
    rw [hJ2] at hj ⊢
    obtain ⟨h0, h1, h2, h3, h4⟩ := hj
    have hXl : ∀ i, X i → i < W.heap.size := fun i hi => by
      rw [hX] at hi
      rcases hi with rfl | rfl | rfl
      · exact blk_lt h2
      · exact blk_lt h1
      · exact blk_lt h3
    refine ⟨hab _ _ _ _ _ _ h0 (hK.mono fun i hi => Or.inl (Or.inl hi)) (fun i hi => ?_), (hK.block _ (blk_lt h1) (h4 _ hX2)).trans h1, (hK.block _ (blk_lt h2) (h4 _ hX1)).trans h2, (hK.block _ (blk_lt h3) (h4 _ hX3)).trans h3, fun i hi hf => ?_⟩
    · rcases hi with hi | hi
      · rcases hF i hi with h | h
        · exact Or.inl (Or.inl h)
        · exact Or.inr h
      · exact Or.inl (Or.inr hi)
    · rcases hF i hf with h | h
      · exact h4 i hi h
      · have := hXl i hi; omega
  have hF0 : ∀ i, X i → ¬ (Ow l hd (A ++ B) v i ∨ (w0.heap.size ≤ i ∧ i < w1.heap.size)) := fun i hi hf => by
    rw [hX] at hi
    rcases hf with hf | hf
    · have := hOw i hf
      rcases hi with rfl | rfl | rfl <;> omega
    · rcases hi with rfl | rfl | rfl <;> omega
  have hJ0 : J2 (A ++ B) (fun i => Ow l hd (A ++ B) v i ∨ (w0.heap.size ≤ i ∧ i < w1.heap.size)) 0 W1 := by
    rw [hJ2]
    refine ⟨hab _ _ _ _ _ _ hJ (hK01.trans (Kp.of_below (fun _ => False) hbW) (fun _ h => h.elim)) (fun i hi => ?_), hW1, hW2, hW3, hF0⟩
    rcases hi with (hi | hi) | hi
    · exact Or.inl hi
    · exact Or.inr (by omega)
    · rw [hX] at hi
      exact Or.inr (by rcases hi with rfl | rfl | rfl <;> omega)
  have HX : Hid _ := hX
  have HJ2 : Hid _ := hJ2
  have HJx2 : Hid _ := hJx2
  have HWW : Hid _ := hWW
  clear hX hJ2 hJx2 hWW
  have hce := cells_any l hd k (w1.heap.size + 1) J2 Jx2 (B.map (fun t => t.c)) (A ++ B) _ W1 hab2 ?_ (hS1.below hbW) hJ0
  · refine hce.mono ?_
    have leave : ∀ (o : Obj) (T : List Tw) (F : Nat → Prop) (R : List Cl) (W2 : World), Stt l hd k T F R W2 → W2.heap[w1.heap.size]? = some (.deferred (some [])) → (∀ i, X i → ¬ F i) →
        CallsDIn Fence.wide 2 Try.prog 39 #[.pointer (some ⟨l, 0, none⟩), .pointer (some ⟨k, 0, none⟩)] .returning ((W2.putObj (w1.heap.size + 1) o).putObj w1.heap.size (.deferred none)) fun e u' w' => u' = .returning ∧ ((∃ x, e = .returned x) ∧ (∃ v', Ls w' l hd T v' [] ∧ ∀ i, Ow l hd T v' i → F i) ∧ Kp W2 w' (Un F X)) := by
      intro o T F R W2 hS h2 h4
      refine (end_any l hd k T F R _ .returning (hS.kept (by simp) fun i hi => ?_)).mono ?_
      · have n1 : i ≠ w1.heap.size := fun e => h4 _ hX1 (e ▸ hi)
        have n2 : i ≠ w1.heap.size + 1 := fun e => h4 _ hX2 (e ▸ hi)
        rw [World.putObj_heap_other n1, World.putObj_heap_other n2]
      · rintro e u' w' ⟨h5, h6, h7, h8⟩
        exact ⟨h5, h6, h7, (((Kp.refl W2 (Un F X)).put o (Or.inl (Or.inr hX2))).put (.deferred none) (Or.inl (Or.inr hX1))).trans h8 (fun i hi => Or.inl (Or.inl hi))⟩
    have hlen : (B.map (fun t => t.c)).length = B.length := by simp
    rintro e W2 ⟨⟨u, rfl⟩, ⟨T, F, hS, hj⟩ | ⟨T, F, R, hS, hj⟩⟩
    · rw [HJ2.out] at hj
      obtain ⟨h0, h1, h2, h3, h4⟩ := hj
      rw [hlen] at h0
      refine ⟨⟨_, rfl⟩, Or.inl ⟨h1, ?_⟩⟩
      have hlv := leave (.loop { RR with state := .exhausted }) T F _ W2 hS h2 h4
      have h2' : (W2.putObj (w1.heap.size + 1) (.loop { RR with state := .exhausted })).heap[w1.heap.size]? = some (.deferred (some [])) := (World.putObj_heap_other (by omega)).trans h2
      refine leaves_two h2' hlv (fun w => results_none rfl _ _ _) ?_ (enters_of Try.func39 (by kernel_rfl) rfl)
      rintro w' ⟨⟨v', h5, h6⟩, h7⟩
      exact ⟨⟨_, rfl⟩, T, v', h5, Or.inl (hab _ _ _ _ _ _ h0 h7 (fun i hi => Or.inl (Or.inl (h6 i hi))))⟩
    · rw [HJx2.out] at hj
      obtain ⟨h0, h1, h2, h4⟩ := hj
      refine ⟨⟨_, rfl⟩, Or.inr ⟨.ret, h1, ?_⟩⟩
      have hlv := leave (.loop { RR with state := .exhausted, pending := some .ret }) T F _ W2 hS h2 h4
      have h2' : (W2.putObj (w1.heap.size + 1) (.loop { RR with state := .exhausted, pending := some .ret })).heap[w1.heap.size]? = some (.deferred (some [])) := (World.putObj_heap_other (by omega)).trans h2
      gi_wp2
      refine leaves_two h2' hlv (fun w => results_none rfl _ _ _) ?_ (enters_of Try.func39 (by kernel_rfl) rfl)
      rintro w' ⟨⟨v', h5, h6⟩, h7⟩
      exact ⟨⟨_, rfl⟩, T, v', h5, Or.inr (habx _ _ _ _ _ h0 h7 (fun i hi => Or.inl (Or.inl (h6 i hi))))⟩
  · clear hJ0 hJ hW1 hW2 hW3 hbW hS1 hF0 hy1
    intro m T F j c W hc hm hS hj
    have key : ∀ RP : Ending → World → Prop, Hid (∀ W' T' F', Stt l hd k T' F' ((B.map (fun t => t.c)).drop (j + 1)) W' → J2 T' F' (j + 1) W' → RP (.returned (.bool true)) W') → Hid (∀ W' T' F' R', Stt l hd k T' F' R' W' → Jx2 T' F' W' → RP (.returned (.bool false)) W') → YieldAt Fence.wide m Try.prog (w1.heap.size + 1) #[clV c] W RP := by
      intro RP hT hF
      have eRR : ({ RR with state := .ready, pending := none } : Loop) = RR := by
        have e1 := hRR.s
        have e2 := hRR.e
        cases RR
        simp_all
      rw [HJ2.out] at hj
      obtain ⟨h0, h1, h2, h3, h4⟩ := hj
      have hb : Below W.heap.size W (W.alloc (.cells #[.string (bstr c.row), .string (bstr c.col), .int .u64 c.ver, .bool c.gone, .string (bstr c.val)] 34)) := (Below.refl _ _).alloc (Nat.le_refl _) _
      have hcA := CellAt.new W 34 c.row c.col c.ver c.gone c.val
      refine yield_round2 h1 hRR rfl ?_
      have HC : Hid _ := hc
      clear hc
      gi_wp2
      generalize hWa : W.alloc (.cells #[.string (bstr c.row), .string (bstr c.col), .int .u64 c.ver, .bool c.gone, .string (bstr c.val)] 34) = Wa at *
      have h1a := (hb.block _ (blk_lt h1)).trans h1
      refine ⟨_, run_beginRound h1a hRR.s, ?_⟩
      have hne1 : W.heap.size ≠ w1.heap.size + 1 := by have := blk_lt h1; omega
      have hne2 : w.heap.size ≠ w1.heap.size + 1 := by omega
      have hKa : Kp W (Wa.putObj (w1.heap.size + 1) (.loop { RR with state := .busy })) (Un F X) := (Kp.of_below _ hb).put _ (Or.inl (Or.inr hX2))
      have hSa : Stt l hd k T F ((B.map (fun t => t.c)).drop (j + 1)) (Wa.putObj (w1.heap.size + 1) (.loop { RR with state := .busy })) := (hS.below hb).kept (by simp) fun i hi => World.putObj_heap_other (fun e => h4 _ hX2 (e ▸ hi))
      have h3a : (Wa.putObj (w1.heap.size + 1) (.loop { RR with state := .busy })).heap[w.heap.size]? = _ := (World.putObj_heap_other hne2).trans ((hb.block _ (blk_lt h3)).trans h3)
      have h2a : (Wa.putObj (w1.heap.size + 1) (.loop { RR with state := .busy })).heap[w1.heap.size]? = _ := (World.putObj_heap_other (by omega)).trans ((hb.block _ (blk_lt h2)).trans h2)
      have h1b : (Wa.putObj (w1.heap.size + 1) (.loop { RR with state := .busy })).heap[w1.heap.size + 1]? = some (.loop { RR with state := .busy }) := World.putObj_heap_same (blk_lt h1a)
      have hca : CellAt (Wa.putObj (w1.heap.size + 1) (.loop { RR with state := .busy })) W.heap.size c.row c.col c.ver c.gone c.val := by
        have hcell : ∀ o, (Wa.putObj (w1.heap.size + 1) (.loop { RR with state := .busy })).cell? ⟨W.heap.size, o, none⟩ = Wa.cell? ⟨W.heap.size, o, none⟩ := fun o => by simp only [World.cell?, World.putObj_heap_other hne1]
        exact ⟨by rw [hcell]; exact hcA.c0, by rw [hcell]; exact hcA.c1, by rw [hcell]; exact hcA.c2, by rw [hcell]; exact hcA.c3, by rw [hcell]; exact hcA.c4⟩
      generalize Wa.putObj (w1.heap.size + 1) (.loop { RR with state := .busy }) = Wb at *
      have hyc : Wb.cell? ⟨w.heap.size, 0, none⟩ = some (.func (.yield lr) #[] #[]) := by simp [World.cell?, h3a]
      clear hWa hb hcA h1 h1a h2 h3 hne1 hne2
      obtain ⟨e0, e1, e2, e3, e4⟩ := id hca
      have hmx : Try.prog.follows .mixedOrders = true := by kernel_rfl
      have hstep : ∀ Wf, Below Wb.heap.size Wb Wf → Wf.cell? ⟨w.heap.size, 0, none⟩ = some (.func (.yield lr) #[] #[]) ∧ Wf.heap[w1.heap.size + 1]? = some (.loop { RR with state := .busy }) ∧ Wf.heap[w1.heap.size]? = some (.deferred (some [])) ∧ Wf.heap[w.heap.size]? = some (.cells #[.func (.yield lr) #[] #[]] 69 (0, 0)) ∧ Stt l hd k T F ((B.map (fun t => t.c)).drop (j + 1)) Wf ∧ J T (Un F X) j Wf ∧ ∀ i, X i → i < Wf.heap.size ∧ ¬ F i := by
        intro Wf hbf
        have h3f := (hbf.block _ (blk_lt h3a)).trans h3a
        refine ⟨by simp [World.cell?, h3f], (hbf.block _ (blk_lt h1b)).trans h1b, (hbf.block _ (blk_lt h2a)).trans h2a, h3f, hSa.below hbf, hab _ _ _ _ _ _ h0 (hKa.trans (Kp.of_below (fun _ => False) hbf) (fun _ h => h.elim)) (fun i hi => Or.inl hi), fun i hi => ⟨?_, h4 i hi⟩⟩
        have hx := hi
        rw [HX.out] at hx
        have hz := hbf.size
        rcases hx with rfl | rfl | rfl
        · exact Nat.lt_of_lt_of_le (blk_lt h2a) hz
        · exact Nat.lt_of_lt_of_le (blk_lt h1b) hz
        · exact Nat.lt_of_lt_of_le (blk_lt h3a) hz
      have HST : Hid _ := hstep
      have HYY : Hid _ := hY
      clear hstep hY hSa hKa h0 hS
      gi_wp2
      gi_region_with_o (first
        | (refine ⟨trivial, fun h => (by cases h), ?_⟩; refine (CallsIn.inRound (w1.heap.size + 1) (callsIn_wide.2 (sfresh_any c _ (may_fits hm)))).mono ?_; rintro e Wf ⟨rfl, hbf⟩; obtain ⟨hycf, h1f, h2f, h3f, hSf, hJf, hXf⟩ := HST.out Wf ⟨hbf.os, hbf.tape, hbf.output, hbf.size, hbf.block⟩; obtain ⟨fn, tmps, assign, body, hyr, hR⟩ := HYY.out (m - 1) k X T F j c Wf HC.out hm hXf hSf hJf)
        | (refine ⟨fun h => (by cases h), ?_⟩; refine RoundIn.mono hR ?_; intro e W3 hq; obtain ⟨bt, rfl, hq2⟩ := two_ways hq; clear hq))
      all_goals (
        rcases hq2.out with ⟨rfl, T', F', hS3, hJ3, hXk⟩ | ⟨rfl, T', F', R', hS3, hJ3, hXk⟩
        · have h1g := (hXk _ hX2).2.trans h1f
          have h2g := (hXk _ hX1).2.trans h2f
          have h3g := (hXk _ hX3).2.trans h3f
          clear hyr hR hq2
          gi_wp2
          refine ⟨_, _, run_endRound (r := { RR with state := .busy }) none h1g, ?_⟩
          refine hT.out _ T' F' (hS3.kept (by simp) fun i hi => World.putObj_heap_other (fun e => (hXk _ hX2).1 (e ▸ hi))) ?_
          rw [HJ2.out]
          refine ⟨hab _ _ _ _ _ _ hJ3 ((Kp.refl _ _).put _ (Or.inl (Or.inr hX2))) (fun i hi => Or.inl hi), (World.putObj_heap_same (blk_lt h1g)).trans (congrArg (fun r => some (Obj.loop r)) eRR), (World.putObj_heap_other (by omega)).trans h2g, (World.putObj_heap_other (by omega)).trans h3g, fun i hi => (hXk i hi).1⟩
        · have h1g := (hXk _ hX2).2.trans h1f
          have h2g := (hXk _ hX1).2.trans h2f
          clear hyr hR hq2
          gi_wp2
          refine ⟨_, _, run_endRound (r := { RR with state := .busy }) (some .ret) h1g, ?_⟩
          refine hF.out _ T' F' R' (hS3.kept (by simp) fun i hi => World.putObj_heap_other (fun e => (hXk _ hX2).1 (e ▸ hi))) ?_
          rw [HJx2.out]
          exact ⟨habx _ _ _ _ _ hJ3 ((Kp.refl _ _).put _ (Or.inl (Or.inr hX2))) (fun i hi => Or.inl hi), World.putObj_heap_same (blk_lt h1g), (World.putObj_heap_other (by omega)).trans h2g, fun i hi => (hXk i hi).1⟩)
    exact key _ (fun W' T' F' h1 h2 => Or.inl ⟨rfl, T', F', h1, h2⟩) (fun W' T' F' R' h1 h2 => Or.inr ⟨rfl, T', F', R', h1, h2⟩)

end Go.Proofs.Ytijfmgpipnhkkaa
