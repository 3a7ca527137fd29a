/-
  SkipKnown, walked.
-/
import Derived.Test.YtmekcfbopjgbeaaSHts
import Derived.Test.YtmekcfbopjgbeaaSWks
namespace Go.Proofs.Ytmekcfbopjgbeaa
open Go.RowKit
attribute [local go_sem] Oper.semAt_some
attribute [local go_sem] size_bstr toList_bstr ls_def
attribute [local go_sem high] cell_eql5 cell_neq5 cell_guard

/-- What the loop over an iterator keeps. -/
structure LK (w : World) (l hd : Nat) (T : List Tw) (v : Value) (L : List Cl) (D : Nat) (RR : Loop) (T' : List Tw) (F : Nat → Prop) (j : Nat) (W : World) : Prop where
  eT : T' = T
  kp : Kp w W (Ow l hd T v)
  fo : ∀ i, F i → Ow l hd T v i ∨ w.heap.size ≤ i
  rc : W.heap[D + 1]? = some (.loop RR)
  df : W.heap[D]? = some (.deferred (some []))
  nl : ¬ F (D + 1)
  nd : ¬ F D
  nb : ¬ F w.heap.size
  ro : ∃ rv, W.heap[w.heap.size]? = some (.cells #[rv] 25 (0, 0)) ∧ W.ownsRow w.heap.size 34 5 rv j (ccells (L.take j)) ∧ ∀ i, rv.ownBlock = some i → ¬ F i
theorem LK.abd (w : World) (l hd : Nat) (T : List Tw) (v : Value) (L : List Cl) (D : Nat) (RR : Loop) : Abd (LK w l hd T v L D RR) := by
  intro T' F F' j W W' h hK hF
  have hsz := h.kp.size
  have key : ∀ i, i < W.heap.size → ¬ F i → ¬ F' i := fun i hi hn hf => by
    rcases hF i hf with q | q
    · exact hn q
    · omega
  obtain ⟨rv, h1, h2, h3⟩ := h.ro
  refine ⟨h.eT, h.kp.trans hK h.fo, fun i hi => ?_, (hK.block _ (blk_lt h.rc) h.nl).trans h.rc, (hK.block _ (blk_lt h.df) h.nd).trans h.df, key _ (blk_lt h.rc) h.nl, key _ (blk_lt h.df) h.nd, key _ (blk_lt h1) h.nb, rv, (hK.block _ (blk_lt h1) h.nb).trans h1, own_kept h2 fun i hi => hK.block i (own_blk_lt h2 hi).1 (h3 i hi), fun i hi => key i (own_blk_lt h2 hi).1 (h3 i hi)⟩
  rcases hF i hi with q | q
  · exact h.fo i q
  · exact Or.inr (by omega)

theorem Ls.not {w : World} {l hd : Nat} {T : List Tw} {v : Value} {xs : List Value} (h : Ls w l hd T v xs) {j : Nat} {o : Obj} (hj : w.heap[j]? = some o) (ho : ∀ cur t, o ≠ .cells cur t (0, 0)) : ¬ Ow l hd T v j := fun hi => by
  obtain ⟨cur, t, e, _⟩ := h.what hi
  rw [hj] at e
  exact ho cur t (Option.some.inj e)

theorem chT3 {T : List Tw} {c1 c2 c3 : Cl} {h1 h2 h3 : Nat} (hT : chT T = [(c1, h1), (c2, h2), (c3, h3)]) : ∃ t1 t2 t3, T = [t1, t2, t3] ∧ t1.c = c1 ∧ t2.c = c2 ∧ t3.c = c3 := by
  rcases T with _ | ⟨t1, _ | ⟨t2, _ | ⟨t3, _ | ⟨t4, T⟩⟩⟩⟩
  · simp [chT] at hT
  · simp [chT] at hT
  · simp [chT] at hT
  · simp only [chT, List.map_cons, List.map_nil, List.cons.injEq, and_true, Prod.mk.injEq] at hT
    exact ⟨t1, t2, t3, rfl, hT.1.1, hT.2.1.1, hT.2.2.1⟩
  · simp [chT] at hT
/-- The heights that the chapter names. -/
def kwl : List Int := [3, 2, 2, 1, 1, 1, 1, 1, 1, 1, 1, 1]
/-- The law's world behind its first loop. -/
structure KS (w : World) (l hd : Nat) (T : List Tw) (bx g cap D : Nat) (W : World) : Prop where
  ls : ∃ v, Ls W l hd T v [] ∧ ∀ i, Ow l hd T v i → w.heap.size ≤ i
  bb : W.heap[bx]? = some (.cells #[.slice (some ⟨g, 0, none⟩) 1 cap] 25 (0, 0))
  gg : CRow W g 0 [xc [98] 1 false]
  gt : ∃ cur, W.heap[g]? = some (.cells cur 34 (0, 0))
  df : W.heap[D]? = some (.deferred (some []))
  be : Below w.heap.size w W
theorem KS.below {w : World} {l hd : Nat} {T : List Tw} {bx g cap D : Nat} {W W' : World} (h : KS w l hd T bx g cap D W) (hb : Below W.heap.size W W') : KS w l hd T bx g cap D W' := by
  obtain ⟨v, h1, h2⟩ := h.ls
  obtain ⟨cur, h3⟩ := h.gt
  exact ⟨⟨v, h1.below hb, h2⟩, (hb.block _ (blk_lt h.bb)).trans h.bb, h.gg.step hb (blk_lt h3), ⟨cur, (hb.block _ (blk_lt h3)).trans h3⟩, (hb.block _ (blk_lt h.df)).trans h.df, below2 h.be hb⟩
theorem KS.put {w : World} {l hd : Nat} {T T' : List Tw} {bx g cap D : Nat} {W W' : World} {v : Value} (h : KS w l hd T bx g cap D W) (hL : Ls W l hd T v []) (hO : ∀ i, Ow l hd T v i → w.heap.size ≤ i) (hL' : Ls W' l hd T' (.slice none 0 0) []) (hO' : ∀ i, Ow l hd T' (.slice none 0 0) i → w.heap.size ≤ i) (hK : Kp W W' (Ow l hd T v)) : KS w l hd T' bx g cap D W' := by
  obtain ⟨cur, h3⟩ := h.gt
  have hg := hK.block _ (blk_lt h3) (hL.other h3 (by decide))
  exact ⟨⟨_, hL', hO'⟩, (hK.block _ (blk_lt h.bb) (hL.other h.bb (by decide))).trans h.bb, h.gg.same fun o => by simp only [World.cell?, hg], ⟨cur, hg.trans h3⟩, (hK.block _ (blk_lt h.df) (hL.not h.df (fun _ _ h => by cases h))).trans h.df, h.be.trans (hK.below h.be.size hO)⟩

/-- The law's world behind its last Put. -/
structure KE (w : World) (l hd : Nat) (T : List Tw) (bx g cap D gb cb eb nb : Nat) (W : World) : Prop where
  ks : KS w l hd T bx g cap D W
  gn : W.heap[gb]? = some (.cells #[.string ⟨#[97]⟩, .string ⟨#[120]⟩, .int .u64 2, .bool true, .string ⟨#[]⟩] 34 (0, 0))
  cc : W.heap[cb]? = some (.cells #[.string ⟨#[97]⟩, .string ⟨#[120]⟩, .int .u64 2, .bool true, .string ⟨#[]⟩] 34 (0, 0))
  ee : W.cell? ⟨eb, 0, none⟩ = some (.pointer none)
  nn : W.heap[nb]? = some (.cells #[.int .i64 0] 3 (0, 0))
theorem KE.below {w : World} {l hd : Nat} {T : List Tw} {bx g cap D gb cb eb nb : Nat} {W W' : World} (h : KE w l hd T bx g cap D gb cb eb nb W) (hb : Below W.heap.size W W') : KE w l hd T bx g cap D gb cb eb nb W' :=
  ⟨h.ks.below hb, (hb.block _ (blk_lt h.gn)).trans h.gn, (hb.block _ (blk_lt h.cc)).trans h.cc, (hb.cell (p := ⟨eb, 0, none⟩) (block_lt_of_cell h.ee)).trans h.ee, (hb.block _ (blk_lt h.nn)).trans h.nn⟩
theorem below_put {W0 W : World} {n : Nat} (h : Below W0.heap.size W0 W) (hn : W0.heap.size ≤ n) (o : Obj) : Below W0.heap.size W0 (W.putObj n o) := by
  have hk : Kp W (W.putObj n o) (fun i => i = n) := (Kp.refl _ _).put _ (Or.inl rfl)
  exact h.trans (hk.below h.size (fun i e => by omega))

/-- The law's world at its last statement. -/
structure KF (w : World) (l hd : Nat) (T : List Tw) (bx g cap D gb cb eb nb D2 D3 : Nat) (W : World) : Prop where
  ke : KE w l hd T bx g cap D gb cb eb nb W
  d2 : W.heap[D2]? = some (.deferred (some []))
  d3 : W.heap[D3]? = some (.deferred (some []))
theorem KF.below {w : World} {l hd : Nat} {T : List Tw} {bx g cap D gb cb eb nb D2 D3 : Nat} {W W' : World} (h : KF w l hd T bx g cap D gb cb eb nb D2 D3 W) (hb : Below W.heap.size W W') : KF w l hd T bx g cap D gb cb eb nb D2 D3 W' :=
  ⟨h.ke.below hb, (hb.block _ (blk_lt h.d2)).trans h.d2, (hb.block _ (blk_lt h.d3)).trans h.d3⟩
theorem KF.drew {w : World} {l hd : Nat} {T : List Tw} {bx g cap D gb cb eb nb D2 D3 : Nat} {W : World} (h : KF w l hd T bx g cap D gb cb eb nb D2 D3 W) : KF w l hd T bx g cap D gb cb eb nb D2 D3 W.drew := h.below (Below.refl _ _).drew
theorem KF.box {w : World} {l hd : Nat} {T : List Tw} {bx g cap D gb cb eb nb D2 D3 : Nat} {W : World} (h : KF w l hd T bx g cap D gb cb eb nb D2 D3 W) : W.cell? ⟨bx, 0, none⟩ = some (.slice (some ⟨g, 0, none⟩) 1 cap) ∧ W.cell? ⟨nb, 0, none⟩ = some (.int .i64 0) := by
  have h1 := h.ke.ks.bb
  have h2 := h.ke.nn
  constructor <;> simp [World.cell?, h1, h2]
theorem KF.two {w : World} {l hd : Nat} {T : List Tw} {bx g cap D gb cb eb nb D2 D3 : Nat} {W : World} (h : KF w l hd T bx g cap D gb cb eb nb D2 D3 W) : (W.cell? ⟨gb, 0, none⟩ = some (.string ⟨#[97]⟩) ∧ W.cell? ⟨gb, 1, none⟩ = some (.string ⟨#[120]⟩) ∧ W.cell? ⟨gb, 2, none⟩ = some (.int .u64 2) ∧ W.cell? ⟨gb, 3, none⟩ = some (.bool true) ∧ W.cell? ⟨gb, 4, none⟩ = some (.string ⟨#[]⟩)) ∧ W.cell? ⟨cb, 0, none⟩ = some (.string ⟨#[97]⟩) ∧ W.cell? ⟨cb, 1, none⟩ = some (.string ⟨#[120]⟩) ∧ W.cell? ⟨cb, 2, none⟩ = some (.int .u64 2) ∧ W.cell? ⟨cb, 3, none⟩ = some (.bool true) ∧ W.cell? ⟨cb, 4, none⟩ = some (.string ⟨#[]⟩) := by
  have h1 := h.ke.gn
  have h2 := h.ke.cc
  refine ⟨⟨?_, ?_, ?_, ?_, ?_⟩, ?_, ?_, ?_, ?_, ?_⟩ <;> simp [World.cell?, h1, h2]
theorem KF.calls {w : World} {l hd : Nat} {T : List Tw} {bx g cap D gb cb eb nb D2 D3 : Nat} {W : World} (h : KF w l hd T bx g cap D gb cb eb nb D2 D3 W) {f : FuncId} {args : Array Value} {v : Value} (hc : Calls Try.prog f args W fun e w' => e = .returned v ∧ Below W.heap.size W w') : Calls Try.prog f args W fun e w' => e = .returned v ∧ KF w l hd T bx g cap D gb cb eb nb D2 D3 w' :=
  hc.mono fun _ _ q => ⟨q.1, h.below q.2⟩

set_option maxHeartbeats 40000000 in
set_option maxRecDepth 100000 in
theorem Known8_rp (w : World) (RP0 : Ending → World → Prop) (hRP : Hid (∀ W, Below w.heap.size w W → RP0 (.returned (.bool true)) W)) :
    Calls Try.prog 7 #[] w RP0 := by
  obtain ⟨i0, hi0, hz0, hz1, hz2⟩ := info_parts Try.infoCell
  have ab1 : ∀ W, Calls Try.prog 25 #[.string ⟨#[98]⟩, .int .u64 1] W fun e w' => e = .returned (.agg #[.string ⟨#[98]⟩, .string ⟨#[120]⟩, .int .u64 1, .bool false, .string ⟨#[]⟩]) ∧ Below W.heap.size W w' := fun W => at8_any [98] 1 W
  have aa1 : ∀ W, Calls Try.prog 25 #[.string ⟨#[97]⟩, .int .u64 1] W fun e w' => e = .returned (.agg #[.string ⟨#[97]⟩, .string ⟨#[120]⟩, .int .u64 1, .bool false, .string ⟨#[]⟩]) ∧ Below W.heap.size W w' := fun W => at8_any [97] 1 W
  have aa2 : ∀ W, Calls Try.prog 25 #[.string ⟨#[97]⟩, .int .u64 2] W fun e w' => e = .returned (.agg #[.string ⟨#[97]⟩, .string ⟨#[120]⟩, .int .u64 2, .bool false, .string ⟨#[]⟩]) ∧ Below W.heap.size W w' := fun W => at8_any [97] 2 W
  have aa0 : ∀ W, Calls Try.prog 25 #[.string ⟨#[97]⟩, .int .u64 0] W fun e w' => e = .returned (.agg #[.string ⟨#[97]⟩, .string ⟨#[120]⟩, .int .u64 0, .bool false, .string ⟨#[]⟩]) ∧ Below W.heap.size W w' := fun W => at8_any [97] 0 W
  refine calls_marks Try.func7 rfl ?_
  simp only [Try.ntmps7, List.size_toArray, List.length_nil, Nat.reduceSub, Array.replicate_succ, Array.replicate_zero, List.push_toArray, List.append_toArray, List.nil_append, List.cons_append]
  gi_wp2
  refine ⟨trivial, ?_⟩
  refine (callsIn_wide.2 (New_any w)).mono ?_
  rintro e w0 ⟨rfl, hL0, hb0⟩
  have hO0 : ∀ i, Ow (w.heap.size + 1) w.heap.size [] (.slice none 0 0) i → w.heap.size ≤ i := fun i hi => by
    rcases hi with rfl | rfl | ⟨t, ht, _⟩ | hi
    · exact Nat.le_succ _
    · exact Nat.le_refl _
    · simp at ht
    · cases hi
  gi_wp2
  refine ⟨trivial, ?_⟩
  refine (callsIn_wide.2 (ab1 _)).mono ?_
  rintro e w1 ⟨rfl, hb1⟩
  have hL1 := hL0.below hb1
  have hB1 := below2 hb0 hb1
  clear hL0 hb0 hb1
  gi_wp2
  refine ⟨trivial, ?_⟩
  refine (callsIn_wide.2 (Put_fine _ _ [] _ (xc [98] 1 false) 3 w1 hL1 (by decide) (by omega) (by omega) (by simp))).mono ?_
  rintro e w2 ⟨rfl, T2, hP2, hL2, hK2⟩
  have hO2 := ow_base hP2 hO0 hB1.size
  have hB2 : Below w.heap.size w w2 := hB1.trans (hK2.below hB1.size hO0)
  have hT2 := hP2.both
  have hl2 := hP2.length
  clear hL1 hP2 hK2 hB1
  gi_wp2
  refine ⟨trivial, ?_⟩
  refine (callsIn_wide.2 (aa1 _)).mono ?_
  rintro e w3 ⟨rfl, hb3⟩
  have hL3 := hL2.below hb3
  have hB3 := below2 hB2 hb3
  clear hL2 hb3 hB2
  gi_wp2
  refine ⟨trivial, ?_⟩
  refine (callsIn_wide.2 (Put_fine _ _ T2 _ (xc [97] 1 false) 1 w3 hL3 (by decide) (by omega) (by omega) (by simp at hl2; omega))).mono ?_
  rintro e w4 ⟨rfl, T4, hP4, hL4, hK4⟩
  have hO4 := ow_base hP4 hO2 hB3.size
  have hB4 : Below w.heap.size w w4 := hB3.trans (hK4.below hB3.size hO2)
  have hT4 := hP4.both
  have hl4 := hP4.length
  clear hL3 hP4 hK4 hB3
  gi_wp2
  refine ⟨trivial, ?_⟩
  refine (callsIn_wide.2 (aa2 _)).mono ?_
  rintro e w5 ⟨rfl, hb5⟩
  have hL5 := hL4.below hb5
  have hB5 := below2 hB4 hb5
  clear hL4 hb5 hB4
  gi_wp2
  refine ⟨trivial, ?_⟩
  refine (callsIn_wide.2 (Put_fine _ _ T4 _ (xc [97] 2 false) 12 w5 hL5 (by decide) (by omega) (by omega) (by simp at hl2; omega))).mono ?_
  rintro e w6 ⟨rfl, T, hP6, hL6, hK6⟩
  have hO6 := ow_base hP6 hO4 hB5.size
  have hB6 : Below w.heap.size w w6 := hB5.trans (hK6.below hB5.size hO4)
  have hT : chT T = [(xc [97] 2 false, 12), (xc [97] 1 false, 1), (xc [98] 1 false, 3)] := by
    rw [hP6.both, hT4, hT2]
    rfl
  clear hL5 hP6 hK6 hB5 hT4 hT2 hl2 hl4 hO0 hO2 hO4
  obtain ⟨t1, t2, t3, rfl, q1, q2, q3⟩ : ∃ t1 t2 t3, T = [t1, t2, t3] ∧ (t1.c, t1.h) = (xc [97] 2 false, 12) ∧ (t2.c, t2.h) = (xc [97] 1 false, 1) ∧ (t3.c, t3.h) = (xc [98] 1 false, 3) := by
    rcases T with _ | ⟨t1, _ | ⟨t2, _ | ⟨t3, _ | ⟨t4, T⟩⟩⟩⟩
    · simp [chT] at hT
    · simp [chT] at hT
    · simp [chT] at hT
    · simp only [chT, List.map_cons, List.map_nil, List.cons.injEq, and_true] at hT
      exact ⟨t1, t2, t3, rfl, hT.1, hT.2.1, hT.2.2⟩
    · simp [chT] at hT
  simp only [Prod.mk.injEq] at q1 q2 q3
  have HT : Hid _ := hT
  have Q1 : Hid _ := q1
  have Q2 : Hid _ := q2
  have Q3 : Hid _ := q3
  clear hT q1 q2 q3
  obtain ⟨l, hl⟩ : ∃ l, l = w.heap.size + 1 := ⟨_, rfl⟩
  obtain ⟨hd, hhd⟩ : ∃ hd, hd = w.heap.size := ⟨_, rfl⟩
  rw [← hl, ← hhd] at hL6 hO6
  rw [← hl]
  have HHD : Hid _ := hhd
  have HHL : Hid _ := hl
  clear hl hhd
  obtain ⟨T, hTT⟩ : ∃ T, T = [t1, t2, t3] := ⟨_, rfl⟩
  have HTT : Hid _ := hTT
  rw [← hTT] at hL6 hO6 HT
  clear hTT
  have hbb : Below w6.heap.size w6 (w6.alloc (.cells #[.slice none 0 0] 25)) := (Below.refl _ _).alloc (Nat.le_refl _) _
  have hobb : (w6.alloc (.cells #[.slice none 0 0] 25)).heap[w6.heap.size]? = some (.cells #[.slice none 0 0] 25 (0, 0)) := heap_alloc_new _ _
  have HS0 : Hid ((w6.alloc (.cells #[.slice none 0 0] 25)).heap.size = w6.heap.size + 1) := (World.size_alloc _ _ : _ = _)
  have hal : Calls Try.prog 26 #[.pointer (some ⟨l, 0, none⟩), .string ⟨#[97]⟩, .string ⟨#[121]⟩] (w6.alloc (.cells #[.slice none 0 0] 25)) _ := From_any (some ⟨l, 0, none⟩) [97] [121] (w6.alloc (.cells #[.slice none 0 0] 25)) (by decide) (by decide)
  generalize hwb : w6.alloc (.cells #[.slice none 0 0] 25) = wb at *
  have HWB : Hid _ := hwb
  clear hwb
  gi_wp2
  rw [HWB.out]
  refine ⟨trivial, ?_⟩
  refine (callsIn_wide.2 hal).mono ?_
  rintro e w8 ⟨rfl, hbx, hb8⟩
  clear hal HWB
  gi_wp2
  refine wp_range2 (by omega) rfl (enters_of Try.func45 (by kernel_rfl) rfl) ?_
  intro RR hRR
  have hb68 := below2 hbb hb8
  have hbW : Below w8.heap.size w8 ((w8.alloc (.deferred (some []))).alloc (.loop RR)) := ((Below.refl _ _).alloc (Nat.le_refl _) _).alloc (by simp) _
  have hW1 : ((w8.alloc (.deferred (some []))).alloc (.loop RR)).heap[w8.heap.size + 1]? = some (.loop RR) := by
    have := World.alloc_heap_new (w8.alloc (.deferred (some []))) (.loop RR)
    rwa [World.size_alloc] at this
  have hW2 : ((w8.alloc (.deferred (some []))).alloc (.loop RR)).heap[w8.heap.size]? = some (.deferred (some [])) := (Below.heap_alloc _ _ _ (by simp)).trans (World.alloc_heap_new w8 _)
  obtain ⟨W1, hWW⟩ : ∃ W1, W1 = (w8.alloc (.deferred (some []))).alloc (.loop RR) := ⟨_, rfl⟩
  rw [← hWW] at hbW hW1 hW2 ⊢
  clear hWW
  have hs0 := HS0.out
  have hs1 := hb8.size
  have hOw : ∀ i, Ow l hd T (.slice none 0 0) i → i < w6.heap.size := fun i hi => hL6.lt hi
  obtain ⟨L, hL⟩ : ∃ L, L = [t3].map (fun t => t.c) := ⟨_, rfl⟩
  have HL : Hid _ := hL
  clear hL
  have hTe : T = [t1, t2] ++ [t3] := HTT.out
  have HTE : Hid _ := hTe
  have hL6' : Ls W1 l hd ([t1, t2] ++ [t3]) (.slice none 0 0) [] := by rw [← hTe]; exact hL6.below (below2 hb68 hbW)
  have hOw' : ∀ i, Ow l hd ([t1, t2] ++ [t3]) (.slice none 0 0) i → i < w6.heap.size := by rw [← hTe]; exact hOw
  clear hTe
  have hJ0 : LK w6 l hd T (.slice none 0 0) L w8.heap.size RR ([t1, t2] ++ [t3]) (Ow l hd ([t1, t2] ++ [t3]) (.slice none 0 0)) 0 W1 := by
    refine ⟨HTE.out.symm, Kp.of_below _ (below2 hb68 hbW), fun i hi => Or.inl (by rw [HTE.out]; exact hi), hW1, hW2, fun hf => ?_, fun hf => ?_, fun hf => ?_, .slice none 0 0, (hbW.block _ (by omega)).trans ((hb8.block _ (by omega)).trans hobb), ⟨rfl, .inl ⟨rfl, rfl⟩⟩, fun i hi => by cases hi⟩
    · have := hOw' _ hf; omega
    · have := hOw' _ hf; omega
    · have := hOw' _ hf; omega
  have hfr := from1_any l hd wb.heap.size (w8.heap.size + 1) [t1, t2] [t3] (.slice none 0 0) [97] [121] W1 (LK w6 l hd T (.slice none 0 0) L w8.heap.size RR) (fun _ _ _ => False) (LK.abd w6 l hd T (.slice none 0 0) L w8.heap.size RR) (fun _ _ _ _ _ h _ _ => h) (hbx.step hbW) hL6' (by
      intro t ht
      simp at ht
      rcases ht with rfl | rfl
      · rw [Q1.out.1]; decide
      · rw [Q2.out.1]; decide) (by
      intro t ht
      simp at ht
      subst ht
      rw [Q3.out.1]; decide) ?_ hJ0
  · clear hs0
    refine hfr.mono ?_
    rintro e W2 ⟨⟨u, rfl⟩, T', v', hL', hj | hj⟩
    · refine ⟨⟨_, rfl⟩, Or.inl ⟨hj.rc, ?_⟩⟩
      have hT' := hj.eT
      have hTT := HTT.out
      rw [← hT'] at hTT
      subst hT'
      obtain ⟨rv, hr1, hr2, hr3⟩ := hj.ro
      have hr4 : W2.ownsRow w6.heap.size 34 5 rv [xc [98] 1 false].length (ccells [xc [98] 1 false]) := by
        have e1 : L.take [t3].length = [xc [98] 1 false] := by rw [HL.out]; simp [Q3.out.1]
        rw [e1] at hr2
        exact hr2
      obtain ⟨g, cap, rfl, _, hgl, _, _, hCR, _⟩ := own_crow hr4 (by simp)
      have hwr : w6.heap.size ≠ w8.heap.size + 1 := by have := HS0.out; omega
      have hne : ∀ i, i ≠ w8.heap.size + 1 → (W2.putObj (w8.heap.size + 1) (.loop { RR with state := .exhausted })).heap[i]? = W2.heap[i]? := fun i hi => World.putObj_heap_other hi
      have hgne : g ≠ w8.heap.size + 1 := fun e => by
        obtain ⟨_, _, cur, hc⟩ := own_blk_lt hr4 rfl
        rw [e, hj.rc] at hc
        cases hc
      have hO6w : ∀ i, Ow l hd T' (.slice none 0 0) i → w.heap.size ≤ i := fun i hi => by have := hO6 i hi; rwa [HHD.out] at this
      have hbw : Below w.heap.size w W2 := hB6.trans (hj.kp.below hB6.size hO6w)
      have hS3 : KS w l hd T' w6.heap.size g cap w8.heap.size (W2.putObj (w8.heap.size + 1) (.loop { RR with state := .exhausted })) := by
        refine ⟨⟨v', hL'.kept fun i hi => hne i (fun e => hj.nl (e ▸ hi)), fun i hi => ?_⟩, (hne _ hwr).trans hr1, hCR.same fun o => by simp only [World.cell?, hne g hgne], ?_, (hne _ (by omega)).trans hj.df, ?_⟩
        · rcases hj.fo i hi with h | h
          · exact hO6w i h
          · exact Nat.le_trans hB6.size h
        · obtain ⟨_, _, cur, hc⟩ := own_blk_lt hr4 rfl
          exact ⟨cur, (hne g hgne).trans hc⟩
        · have hk : Kp W2 (W2.putObj (w8.heap.size + 1) (.loop { RR with state := .exhausted })) (fun i => i = w8.heap.size + 1) := (Kp.refl _ _).put _ (Or.inl rfl)
          exact hbw.trans (hk.below hbw.size (fun i e => by have := hB6.size; have := HS0.out; omega))
      generalize W2.putObj (w8.heap.size + 1) (.loop { RR with state := .exhausted }) = W3 at *
      have HQ : Hid _ := hTT
      clear hr1 hr2 hr3 hr4 hCR hL' hj hbw hne hgne hgl hfr hTT hL6 hL6' hO6 hOw hOw' hobb hbb hbx hb8 hb68 hW1 hW2 hbW hJ0
      have hgn : Calls Try.prog 11 #[.pointer (some ⟨l, 0, none⟩), .string ⟨#[97]⟩, .string ⟨#[121]⟩] W3 fun e w' => e = .returned (.tuple #[.agg #[.string ⟨#[]⟩, .string ⟨#[]⟩, .int .u64 0, .bool false, .string ⟨#[]⟩], .bool false]) ∧ Below W3.heap.size W3 w' := by
        obtain ⟨v3, h3, _⟩ := hS3.ls
        rw [HQ.out] at h3
        exact Get_no l hd [t1, t2] [t3] v3 [] [97] [121] W3 h3 (by
          intro t ht
          simp at ht
          rcases ht with rfl | rfl
          · rw [Q1.out.1]; decide
          · rw [Q2.out.1]; decide) (by
          intro t ht
          simp at ht
          subst ht
          rw [Q3.out.1]; decide) (by
          intro u B' e
          simp at e
          rw [← e.1, Q3.out.1]
          decide)
      gi_wp2
      refine ⟨trivial, ?_⟩
      refine (callsIn_wide.2 hgn).mono ?_
      rintro e w9 ⟨rfl, hb9⟩
      have hS9 := (hS3.below hb9).below ((Below.refl _ _).alloc (Nat.le_refl _) (.cells #[.string ⟨#[]⟩, .string ⟨#[]⟩, .int .u64 0, .bool false, .string ⟨#[]⟩] 34))
      clear hgn hS3 hb9
      generalize hw9 : w9.alloc (.cells #[.string ⟨#[]⟩, .string ⟨#[]⟩, .int .u64 0, .bool false, .string ⟨#[]⟩] 34) = w9' at *
      have HW9 : Hid _ := hw9
      clear hw9
      have hht : Calls Try.prog 17 #[.pointer (some ⟨l, 0, none⟩)] w9' fun e w' => ∃ gh ch, e = .returned (.slice (some ⟨gh, 0, none⟩) 12 ch) ∧ (∀ i, i < 12 → w'.cell? ⟨gh, i, none⟩ = some (.int .i64 (kwl.getD i 0))) ∧ Below w9'.heap.size w9' w' := by
        obtain ⟨v3, h3, _⟩ := hS9.ls
        refine (Heights_any l hd T' v3 [] w9' h3).mono ?_
        rintro e w' ⟨r, rfl, hr, hb⟩
        have hk : hts T' = kwl := by rw [hts_ch, HT.out]; decide
        rw [hk] at hr
        rcases hr.2 with ⟨_, e0⟩ | ⟨g, cap, cur, rfl, hbg, hg, hnc, hcm, hcs, htk⟩
        · cases e0
        · refine ⟨g, cap, rfl, fun i hi => ?_, hb⟩
          have := hr.cells (g := g) rfl i (.int .i64 (kwl.getD i 0)) (by
            rcases i with _ | _ | _ | _ | _ | _ | _ | _ | _ | _ | _ | _ | i
            all_goals first | rfl | omega)
          rw [Addr.add_lit, Nat.zero_add] at this
          exact this
      gi_wp2
      rw [HW9.out]
      refine ⟨trivial, ?_⟩
      refine (callsIn_wide.2 hht).mono ?_
      rintro e w10 ⟨gh, ch, rfl, hgh, hb10⟩
      have hS10 := hS9.below hb10
      clear hht hS9 hb10 HW9
      have hb11 : Below w10.heap.size w10 (w10.alloc (.cells #[.int .i64 3, .int .i64 2, .int .i64 2, .int .i64 1, .int .i64 1, .int .i64 1, .int .i64 1, .int .i64 1, .int .i64 1, .int .i64 1, .int .i64 1, .int .i64 1] 3)) := (Below.refl _ _).alloc (Nat.le_refl _) _
      have hwn : ∀ i, i < 12 → (w10.alloc (.cells #[.int .i64 3, .int .i64 2, .int .i64 2, .int .i64 1, .int .i64 1, .int .i64 1, .int .i64 1, .int .i64 1, .int .i64 1, .int .i64 1, .int .i64 1, .int .i64 1] 3)).cell? ⟨w10.heap.size, i, none⟩ = some (.int .i64 (kwl.getD i 0)) := fun i hi => by
        have hn := heap_alloc_new w10 (.cells #[.int .i64 3, .int .i64 2, .int .i64 2, .int .i64 1, .int .i64 1, .int .i64 1, .int .i64 1, .int .i64 1, .int .i64 1, .int .i64 1, .int .i64 1, .int .i64 1] 3)
        simp only [World.cell?, hn]
        rcases i with _ | _ | _ | _ | _ | _ | _ | _ | _ | _ | _ | _ | i
        all_goals first | rfl | omega
      have hS11 := hS10.below hb11
      have hgh2 : ∀ i, i < 12 → (w10.alloc (.cells #[.int .i64 3, .int .i64 2, .int .i64 2, .int .i64 1, .int .i64 1, .int .i64 1, .int .i64 1, .int .i64 1, .int .i64 1, .int .i64 1, .int .i64 1, .int .i64 1] 3)).cell? ⟨gh, i, none⟩ = some (.int .i64 (kwl.getD i 0)) := fun i hi => (hb11.cell (p := ⟨gh, i, none⟩) (block_lt_of_cell (hgh i hi))).trans (hgh i hi)
      clear hgh hS10
      gi_wp2
      generalize w10.alloc (.cells #[.int .i64 3, .int .i64 2, .int .i64 2, .int .i64 1, .int .i64 1, .int .i64 1, .int .i64 1, .int .i64 1, .int .i64 1, .int .i64 1, .int .i64 1, .int .i64 1] 3) = w11 at *
      gi_loopw [8] (fun s8 wr => ∃ i : Nat, s8 = .int .i64 (i : Int) ∧ i ≤ 12 ∧ Below w11.heap.size w11 wr) (fun s8 _ => 12 - (intOf s8).toNat)
      case atStart => exact ⟨0, rfl, by omega, Below.refl _ _⟩
      case round =>
        obtain ⟨i, rfl, hi12, hbr⟩ := hrel
        by_cases hi : i < 12
        · have c1 := (hbr.cell (p := ⟨gh, i, none⟩) (block_lt_of_cell (hgh2 i hi))).trans (hgh2 i hi)
          have c2 := (hbr.cell (p := ⟨w10.heap.size, i, none⟩) (block_lt_of_cell (hwn i hi))).trans (hwn i hi)
          have hiz : (i : Int) < 12 := by omega
          generalize kwl.getD i 0 = x at c1 c2
          clear hgh2 hwn
          gi_wp2
          gi_big_quiet_th (fail)
          have hbe := below_drewN hbr nq
          clear c1 c2
          gi_wp2
          exact ⟨⟨i + 1, by go_num, by omega, hbe⟩, by simp [intOf]; omega⟩
        · have hi2 : i = 12 := by omega
          subst hi2
          have hS12 := hS11.below hbr
          clear hgh2 hwn hS11 hbr
          gi_wp2
          refine ⟨trivial, ?_⟩
          refine (callsIn_wide.2 (aa2 _)).mono ?_
          rintro e w13 ⟨rfl, hb13⟩
          have hS13 := hS12.below hb13
          clear hS12 hb13
          have hb14 : Below w13.heap.size w13 (w13.alloc (.cells #[.string ⟨#[97]⟩, .string ⟨#[120]⟩, .int .u64 2, .bool true, .string ⟨#[]⟩] 34)) := (Below.refl _ _).alloc (Nat.le_refl _) _
          have hg14 : (w13.alloc (.cells #[.string ⟨#[97]⟩, .string ⟨#[120]⟩, .int .u64 2, .bool true, .string ⟨#[]⟩] 34)).heap[w13.heap.size]? = some (.cells #[.string ⟨#[97]⟩, .string ⟨#[120]⟩, .int .u64 2, .bool true, .string ⟨#[]⟩] 34 (0, 0)) := heap_alloc_new _ _
          have hS14 := hS13.below hb14
          obtain ⟨w14, hw14⟩ : ∃ w14, w14 = w13.alloc (.cells #[.string ⟨#[97]⟩, .string ⟨#[120]⟩, .int .u64 2, .bool true, .string ⟨#[]⟩] 34) := ⟨_, rfl⟩
          rw [← hw14] at hg14 hS14
          have HW14 : Hid _ := hw14
          clear hw14 hS13 hb14
          have hp : Calls Try.prog 10 #[.pointer (some ⟨l, 0, none⟩), .agg #[.string ⟨#[97]⟩, .string ⟨#[120]⟩, .int .u64 2, .bool true, .string ⟨#[]⟩], .int .i64 1] w14 fun e w' => e = .returned (.int .i64 0) ∧ ∃ T2, chT T2 = [(xc [97] 2 true, 12), (xc [97] 1 false, 1), (xc [98] 1 false, 3)] ∧ KS w l hd T2 w6.heap.size g cap w8.heap.size w' ∧ w'.heap[w13.heap.size]? = some (.cells #[.string ⟨#[97]⟩, .string ⟨#[120]⟩, .int .u64 2, .bool true, .string ⟨#[]⟩] 34 (0, 0)) := by
            obtain ⟨v3, h3, h4⟩ := hS14.ls
            refine (Put_fine l hd T' v3 (xc [97] 2 true) 1 w14 h3 (by decide) (by omega) (by omega) (by rw [HQ.out]; simp)).mono ?_
            rintro e w' ⟨rfl, T2, hP, hL2, hK2⟩
            refine ⟨rfl, T2, by rw [hP.both, HT.out]; rfl, hS14.put h3 h4 hL2 (ow_base hP h4 hS14.be.size) hK2, (hK2.block _ (blk_lt hg14) (h3.other hg14 (by decide))).trans hg14⟩
          gi_wp2
          rw [← HW14.out]
          refine ⟨trivial, ?_⟩
          refine (callsIn_wide.2 hp).mono ?_
          rintro e w15 ⟨rfl, T2, hT2, hS15, hg15⟩
          clear hp HW14 hS14 hg14 HT HQ Q1 Q2 Q3 HTT
          have HT2 : Hid _ := hT2
          have hGet : Calls Try.prog 11 #[.pointer (some ⟨l, 0, none⟩), .string ⟨#[97]⟩, .string ⟨#[120]⟩] w15 fun e w' => e = .returned (.tuple #[.agg #[.string ⟨#[97]⟩, .string ⟨#[120]⟩, .int .u64 2, .bool true, .string ⟨#[]⟩], .bool true]) ∧ Below w15.heap.size w15 w' := by
            obtain ⟨s1, s2, s3, rfl, h1, h2, h3⟩ := chT3 hT2
            obtain ⟨v3, h4, _⟩ := hS15.ls
            have := Get_yes l hd [] [s2, s3] s1 v3 [] [97] [120] w15 h4 (by simp) (by
              intro t ht
              simp at ht
              rcases ht with rfl | rfl | rfl
              · rw [h1]; decide
              · rw [h2]; decide
              · rw [h3]; decide) (by rw [h1]; rfl) (by rw [h1]; rfl)
            rw [h1] at this
            exact this
          clear hT2
          gi_wp2
          refine ⟨trivial, ?_⟩
          refine (callsIn_wide.2 hGet).mono ?_
          rintro e w16 ⟨rfl, hb16⟩
          have hS16 := hS15.below hb16
          have hg16 := (hb16.block _ (blk_lt hg15)).trans hg15
          clear hGet hS15 hg15 hb16
          obtain ⟨w17, hw17⟩ : ∃ w17, w17 = ((w16.alloc (.cells #[.string ⟨#[97]⟩, .string ⟨#[120]⟩, .int .u64 2, .bool true, .string ⟨#[]⟩] 34)).alloc (.cells #[.pointer none, .int .i64 0, .int .i64 0, .int .i64 0, .int .i64 0, .int .i64 0, .int .i64 0, .int .i64 0, .int .i64 0, .int .i64 0, .int .i64 0, .int .i64 0, .int .i64 0, .slice none 0 0] 67)).alloc (.cells #[.int .i64 0] 3) := ⟨_, rfl⟩
          have hE : KE w l hd T2 w6.heap.size g cap w8.heap.size w13.heap.size w16.heap.size (w16.heap.size + 1) (w16.heap.size + 1 + 1) w17 := by
            have b1 : Below w16.heap.size w16 (w16.alloc (.cells #[.string ⟨#[97]⟩, .string ⟨#[120]⟩, .int .u64 2, .bool true, .string ⟨#[]⟩] 34)) := (Below.refl _ _).alloc (Nat.le_refl _) _
            have b2 : Below w16.heap.size w16 w17 := by rw [hw17]; exact (b1.alloc (by simp) _).alloc (by simp; omega) _
            have n1 := heap_alloc_new w16 (.cells #[.string ⟨#[97]⟩, .string ⟨#[120]⟩, .int .u64 2, .bool true, .string ⟨#[]⟩] 34)
            have n2 := heap_alloc_new (w16.alloc (.cells #[.string ⟨#[97]⟩, .string ⟨#[120]⟩, .int .u64 2, .bool true, .string ⟨#[]⟩] 34)) (.cells #[.pointer none, .int .i64 0, .int .i64 0, .int .i64 0, .int .i64 0, .int .i64 0, .int .i64 0, .int .i64 0, .int .i64 0, .int .i64 0, .int .i64 0, .int .i64 0, .int .i64 0, .slice none 0 0] 67)
            have n3 := heap_alloc_new ((w16.alloc (.cells #[.string ⟨#[97]⟩, .string ⟨#[120]⟩, .int .u64 2, .bool true, .string ⟨#[]⟩] 34)).alloc (.cells #[.pointer none, .int .i64 0, .int .i64 0, .int .i64 0, .int .i64 0, .int .i64 0, .int .i64 0, .int .i64 0, .int .i64 0, .int .i64 0, .int .i64 0, .int .i64 0, .int .i64 0, .slice none 0 0] 67)) (.cells #[.int .i64 0] 3)
            rw [World.size_alloc] at n2
            rw [World.size_alloc, World.size_alloc, ← hw17] at n3
            refine ⟨hS16.below b2, (b2.block _ (blk_lt hg16)).trans hg16, ?_, ?_, n3⟩
            · rw [hw17]
              exact (Below.heap_alloc _ _ _ (by simp; omega)).trans ((Below.heap_alloc _ _ _ (by simp)).trans n1)
            · have n4 : w17.heap[w16.heap.size + 1]? = some (.cells #[.pointer none, .int .i64 0, .int .i64 0, .int .i64 0, .int .i64 0, .int .i64 0, .int .i64 0, .int .i64 0, .int .i64 0, .int .i64 0, .int .i64 0, .int .i64 0, .int .i64 0, .slice none 0 0] 67 (0, 0)) := by
                rw [hw17]
                exact (Below.heap_alloc _ _ _ (by simp)).trans n2
              simp [World.cell?, n4]
          have HW17 : Hid _ := hw17
          clear hw17 hS16 hg16
          gi_wp2
          rw [← HW17.out]
          refine ⟨trivial, ?_⟩
          refine (callsIn_wide.2 (All_any none w17)).mono ?_
          rintro e w18 ⟨rfl, hbx18, hb18⟩
          have hE18 := hE.below hb18
          have hs18 := blk_lt hE18.ks.df
          clear hE HW17 hb18 hRR
          gi_wp2
          refine wp_range2 (by omega) rfl (enters_of Try.func45 (by kernel_rfl) rfl) ?_
          intro R2 hR2
          clear hR2
          have hbW2 : Below w18.heap.size w18 ((w18.alloc (.deferred (some []))).alloc (.loop R2)) := ((Below.refl _ _).alloc (Nat.le_refl _) _).alloc (by simp) _
          have hl2 : ((w18.alloc (.deferred (some []))).alloc (.loop R2)).heap[w18.heap.size + 1]? = some (.loop R2) := by
            have := World.alloc_heap_new (w18.alloc (.deferred (some []))) (.loop R2)
            rwa [World.size_alloc] at this
          have hd2 : ((w18.alloc (.deferred (some []))).alloc (.loop R2)).heap[w18.heap.size]? = some (.deferred (some [])) := (Below.heap_alloc _ _ _ (by simp)).trans (World.alloc_heap_new w18 _)
          generalize (w18.alloc (.deferred (some []))).alloc (.loop R2) = w19 at *
          refine (from1_none none w17.heap.size (w18.heap.size + 1) [] [] w19 (hbx18.step hbW2) (Or.inl rfl)).mono ?_
          rintro e w20 ⟨⟨u, rfl⟩, hb20⟩
          refine ⟨⟨_, rfl⟩, Or.inl ⟨(hb20.block _ (blk_lt hl2)).trans hl2, ?_⟩⟩
          have hb20' := below_put (below2 hbW2 hb20) (show w18.heap.size ≤ w18.heap.size + 1 by omega) (.loop { R2 with state := .exhausted })
          have hE21 := hE18.below hb20'
          have hd21 : (w20.putObj (w18.heap.size + 1) (.loop { R2 with state := .exhausted })).heap[w18.heap.size]? = _ := (World.putObj_heap_other (by omega)).trans ((hb20.block _ (blk_lt hd2)).trans hd2)
          clear hE18 hb20 hb20' hd2 hl2 hbW2 hbx18
          generalize w20.putObj (w18.heap.size + 1) (.loop { R2 with state := .exhausted }) = w21 at *
          have hfe : Calls Try.prog 26 #[.pointer (some ⟨w16.heap.size + 1, 0, none⟩), .string ⟨#[]⟩, .string ⟨#[]⟩] w21 _ := From_any (some ⟨w16.heap.size + 1, 0, none⟩) [] [] w21 (by decide) (by decide)
          gi_wp2
          refine ⟨trivial, ?_⟩
          refine (callsIn_wide.2 hfe).mono ?_
          rintro e w22 ⟨rfl, hbx22, hb22⟩
          have hE22 := hE21.below hb22
          have hd22 := (hb22.block _ (blk_lt hd21)).trans hd21
          have hs22 := Nat.lt_of_lt_of_le (blk_lt hd21) hb22.size
          clear hE21 hb22 hfe hd21
          gi_wp2
          refine wp_range2 (by omega) rfl (enters_of Try.func45 (by kernel_rfl) rfl) ?_
          intro R3 hR3
          clear hR3
          have hbW3 : Below w22.heap.size w22 ((w22.alloc (.deferred (some []))).alloc (.loop R3)) := ((Below.refl _ _).alloc (Nat.le_refl _) _).alloc (by simp) _
          have hl3 : ((w22.alloc (.deferred (some []))).alloc (.loop R3)).heap[w22.heap.size + 1]? = some (.loop R3) := by
            have := World.alloc_heap_new (w22.alloc (.deferred (some []))) (.loop R3)
            rwa [World.size_alloc] at this
          have hd3 : ((w22.alloc (.deferred (some []))).alloc (.loop R3)).heap[w22.heap.size]? = some (.deferred (some [])) := (Below.heap_alloc _ _ _ (by simp)).trans (World.alloc_heap_new w22 _)
          generalize (w22.alloc (.deferred (some []))).alloc (.loop R3) = w23 at *
          have hE23 := hE22.below hbW3
          refine (from1_none (some ⟨w16.heap.size + 1, 0, none⟩) w21.heap.size (w22.heap.size + 1) [] [] w23 (hbx22.step hbW3) (Or.inr ⟨_, rfl, hE23.ee⟩)).mono ?_
          rintro e w24 ⟨⟨u, rfl⟩, hb24⟩
          refine ⟨⟨_, rfl⟩, Or.inl ⟨(hb24.block _ (blk_lt hl3)).trans hl3, ?_⟩⟩
          have hb24' := below_put (below2 hbW3 hb24) (show w22.heap.size ≤ w22.heap.size + 1 by omega) (.loop { R3 with state := .exhausted })
          have hE25 := hE22.below hb24'
          have hd25 : (w24.putObj (w22.heap.size + 1) (.loop { R3 with state := .exhausted })).heap[w18.heap.size]? = some (.deferred (some [])) := (hb24'.block _ hs22).trans hd22
          have hf25 : (w24.putObj (w22.heap.size + 1) (.loop { R3 with state := .exhausted })).heap[w22.heap.size]? = some (.deferred (some [])) := (World.putObj_heap_other (by omega)).trans ((hb24.block _ (blk_lt hd3)).trans hd3)
          clear hE22 hE23 hb24 hb24' hd3 hl3 hbW3 hbx22 hd22
          generalize w24.putObj (w22.heap.size + 1) (.loop { R3 with state := .exhausted }) = w25 at *
          have hgn : Calls Try.prog 11 #[.pointer none, .string ⟨#[97]⟩, .string ⟨#[120]⟩] w25 fun e w' => e = .returned (.tuple #[.agg #[.string ⟨#[]⟩, .string ⟨#[]⟩, .int .u64 0, .bool false, .string ⟨#[]⟩], .bool false]) ∧ Below w25.heap.size w25 w' := Get_none none [97] [120] w25 (Or.inl rfl)
          gi_wp2
          refine ⟨trivial, ?_⟩
          refine (callsIn_wide.2 hgn).mono ?_
          rintro e w26 ⟨rfl, hb26⟩
          have hE26 := (hE25.below hb26).below ((Below.refl _ _).alloc (Nat.le_refl _) (.cells #[.string ⟨#[]⟩, .string ⟨#[]⟩, .int .u64 0, .bool false, .string ⟨#[]⟩] 34))
          have hd26 := (Below.heap_alloc w26 (.cells #[.string ⟨#[]⟩, .string ⟨#[]⟩, .int .u64 0, .bool false, .string ⟨#[]⟩] 34) _ (Nat.lt_of_lt_of_le (blk_lt hd25) hb26.size)).trans ((hb26.block _ (blk_lt hd25)).trans hd25)
          have hf26 := (Below.heap_alloc w26 (.cells #[.string ⟨#[]⟩, .string ⟨#[]⟩, .int .u64 0, .bool false, .string ⟨#[]⟩] 34) _ (Nat.lt_of_lt_of_le (blk_lt hf25) hb26.size)).trans ((hb26.block _ (blk_lt hf25)).trans hf25)
          clear hgn hE25 hb26 hd25 hf25
          have hF : KF w l hd T2 w6.heap.size g cap w8.heap.size w13.heap.size w16.heap.size (w16.heap.size + 1) (w16.heap.size + 1 + 1) w18.heap.size w22.heap.size _ := ⟨hE26, hd26, hf26⟩
          clear hE26 hd26 hf26
          gi_wp2
          generalize w26.alloc (.cells #[.string ⟨#[]⟩, .string ⟨#[]⟩, .int .u64 0, .bool false, .string ⟨#[]⟩] 34) = w27 at *
          have kw : ∀ W, KF w l hd T2 w6.heap.size g cap w8.heap.size w13.heap.size w16.heap.size (w16.heap.size + 1) (w16.heap.size + 1 + 1) w18.heap.size w22.heap.size W → Calls Try.prog 19 #[] W fun e w' => e = .returned (.bool true) ∧ KF w l hd T2 w6.heap.size g cap w8.heap.size w13.heap.size w16.heap.size (w16.heap.size + 1) (w16.heap.size + 1 + 1) w18.heap.size w22.heap.size w' := fun W h => h.calls (works8_any W)
          have kb1 : ∀ W, KF w l hd T2 w6.heap.size g cap w8.heap.size w13.heap.size w16.heap.size (w16.heap.size + 1) (w16.heap.size + 1 + 1) w18.heap.size w22.heap.size W → Calls Try.prog 25 #[.string ⟨#[98]⟩, .int .u64 1] W fun e w' => e = .returned (.agg #[.string ⟨#[98]⟩, .string ⟨#[120]⟩, .int .u64 1, .bool false, .string ⟨#[]⟩]) ∧ KF w l hd T2 w6.heap.size g cap w8.heap.size w13.heap.size w16.heap.size (w16.heap.size + 1) (w16.heap.size + 1 + 1) w18.heap.size w22.heap.size w' := fun W h => h.calls (ab1 W)
          have ka1 : ∀ W, KF w l hd T2 w6.heap.size g cap w8.heap.size w13.heap.size w16.heap.size (w16.heap.size + 1) (w16.heap.size + 1 + 1) w18.heap.size w22.heap.size W → Calls Try.prog 25 #[.string ⟨#[97]⟩, .int .u64 1] W fun e w' => e = .returned (.agg #[.string ⟨#[97]⟩, .string ⟨#[120]⟩, .int .u64 1, .bool false, .string ⟨#[]⟩]) ∧ KF w l hd T2 w6.heap.size g cap w8.heap.size w13.heap.size w16.heap.size (w16.heap.size + 1) (w16.heap.size + 1 + 1) w18.heap.size w22.heap.size w' := fun W h => h.calls (aa1 W)
          have ka0 : ∀ W, KF w l hd T2 w6.heap.size g cap w8.heap.size w13.heap.size w16.heap.size (w16.heap.size + 1) (w16.heap.size + 1 + 1) w18.heap.size w22.heap.size W → Calls Try.prog 25 #[.string ⟨#[97]⟩, .int .u64 0] W fun e w' => e = .returned (.agg #[.string ⟨#[97]⟩, .string ⟨#[120]⟩, .int .u64 0, .bool false, .string ⟨#[]⟩]) ∧ KF w l hd T2 w6.heap.size g cap w8.heap.size w13.heap.size w16.heap.size (w16.heap.size + 1) (w16.heap.size + 1 + 1) w18.heap.size w22.heap.size w' := fun W h => h.calls (aa0 W)
          have ksm : ∀ W, KF w l hd T2 w6.heap.size g cap w8.heap.size w13.heap.size w16.heap.size (w16.heap.size + 1) (w16.heap.size + 1 + 1) w18.heap.size w22.heap.size W → Calls Try.prog 23 #[.slice (some ⟨g, 0, none⟩) 1 cap, .slice (some ⟨W.heap.size, 0, none⟩) 1 1] (W.alloc (.cells #[.string ⟨#[98]⟩, .string ⟨#[120]⟩, .int .u64 1, .bool false, .string ⟨#[]⟩] 34)) fun e w' => e = .returned (.bool true) ∧ KF w l hd T2 w6.heap.size g cap w8.heap.size w13.heap.size w16.heap.size (w16.heap.size + 1) (w16.heap.size + 1 + 1) w18.heap.size w22.heap.size w' := fun W h => by
            have hb : Below W.heap.size W (W.alloc (.cells #[.string ⟨#[98]⟩, .string ⟨#[120]⟩, .int .u64 1, .bool false, .string ⟨#[]⟩] 34)) := (Below.refl _ _).alloc (Nat.le_refl _) _
            exact (h.below hb).calls (same8_any (some ⟨g, 0, none⟩) (some ⟨W.heap.size, 0, none⟩) g 0 cap W.heap.size 0 1 [xc [98] 1 false] _ (fun _ => ⟨rfl, (h.below hb).ke.ks.gg⟩) (fun _ => ⟨rfl, CRow.lit W [xc [98] 1 false] 34⟩) (by decide))
          have kln : ∀ W, KF w l hd T2 w6.heap.size g cap w8.heap.size w13.heap.size w16.heap.size (w16.heap.size + 1) (w16.heap.size + 1 + 1) w18.heap.size w22.heap.size W → Calls Try.prog 13 #[.pointer (some ⟨l, 0, none⟩)] W fun e w' => e = .returned (.int .i64 3) ∧ w' = W := fun W h => by
            obtain ⟨v3, h3, _⟩ := h.ke.ks.ls
            have := SLen_any l hd T2 v3 [] W h3
            have hl : T2.length = 3 := by have := congrArg List.length HT2.out; simpa [chT] using this
            rw [hl] at this
            exact this
          have kp1 : ∀ W, KF w l hd T2 w6.heap.size g cap w8.heap.size w13.heap.size w16.heap.size (w16.heap.size + 1) (w16.heap.size + 1 + 1) w18.heap.size w22.heap.size W → Calls Try.prog 10 #[.pointer (some ⟨l, 0, none⟩), .agg #[.string ⟨#[97]⟩, .string ⟨#[120]⟩, .int .u64 1, .bool false, .string ⟨#[]⟩], .int .i64 0] W fun e w' => e = .returned (.int .i64 2) ∧ KF w l hd T2 w6.heap.size g cap w8.heap.size w13.heap.size w16.heap.size (w16.heap.size + 1) (w16.heap.size + 1 + 1) w18.heap.size w22.heap.size w' := fun W h => by
            obtain ⟨v3, h3, _⟩ := h.ke.ks.ls
            exact h.calls (Put_arg l hd (xc [97] 1 false) 0 W h3.blk.head (Or.inr (Or.inl (by decide))))
          have kp2 : ∀ W, KF w l hd T2 w6.heap.size g cap w8.heap.size w13.heap.size w16.heap.size (w16.heap.size + 1) (w16.heap.size + 1 + 1) w18.heap.size w22.heap.size W → Calls Try.prog 10 #[.pointer (some ⟨l, 0, none⟩), .agg #[.string ⟨#[97]⟩, .string ⟨#[120]⟩, .int .u64 1, .bool false, .string ⟨#[]⟩], .int .i64 13] W fun e w' => e = .returned (.int .i64 2) ∧ KF w l hd T2 w6.heap.size g cap w8.heap.size w13.heap.size w16.heap.size (w16.heap.size + 1) (w16.heap.size + 1 + 1) w18.heap.size w22.heap.size w' := fun W h => by
            obtain ⟨v3, h3, _⟩ := h.ke.ks.ls
            exact h.calls (Put_arg l hd (xc [97] 1 false) 13 W h3.blk.head (Or.inr (Or.inr (by decide))))
          have kp3 : ∀ W, KF w l hd T2 w6.heap.size g cap w8.heap.size w13.heap.size w16.heap.size (w16.heap.size + 1) (w16.heap.size + 1 + 1) w18.heap.size w22.heap.size W → Calls Try.prog 10 #[.pointer (some ⟨l, 0, none⟩), .agg #[.string ⟨#[97]⟩, .string ⟨#[120]⟩, .int .u64 0, .bool false, .string ⟨#[]⟩], .int .i64 1] W fun e w' => e = .returned (.int .i64 2) ∧ KF w l hd T2 w6.heap.size g cap w8.heap.size w13.heap.size w16.heap.size (w16.heap.size + 1) (w16.heap.size + 1 + 1) w18.heap.size w22.heap.size w' := fun W h => by
            obtain ⟨v3, h3, _⟩ := h.ke.ks.ls
            exact h.calls (Put_arg l hd (xc [97] 0 false) 1 W h3.blk.head (Or.inl (by decide)))
          have kp4 : ∀ W, KF w l hd T2 w6.heap.size g cap w8.heap.size w13.heap.size w16.heap.size (w16.heap.size + 1) (w16.heap.size + 1 + 1) w18.heap.size w22.heap.size W → Calls Try.prog 10 #[.pointer none, .agg #[.string ⟨#[97]⟩, .string ⟨#[120]⟩, .int .u64 1, .bool false, .string ⟨#[]⟩], .int .i64 1] W fun e w' => e = .returned (.int .i64 1) ∧ KF w l hd T2 w6.heap.size g cap w8.heap.size w13.heap.size w16.heap.size (w16.heap.size + 1) (w16.heap.size + 1 + 1) w18.heap.size w22.heap.size w' := fun W h => h.calls (Put_none none (xc [97] 1 false) 1 W (Or.inl rfl))
          have kp5 : ∀ W, KF w l hd T2 w6.heap.size g cap w8.heap.size w13.heap.size w16.heap.size (w16.heap.size + 1) (w16.heap.size + 1 + 1) w18.heap.size w22.heap.size W → Calls Try.prog 10 #[.pointer (some ⟨w16.heap.size + 1, 0, none⟩), .agg #[.string ⟨#[97]⟩, .string ⟨#[120]⟩, .int .u64 1, .bool false, .string ⟨#[]⟩], .int .i64 1] W fun e w' => e = .returned (.int .i64 1) ∧ KF w l hd T2 w6.heap.size g cap w8.heap.size w13.heap.size w16.heap.size (w16.heap.size + 1) (w16.heap.size + 1 + 1) w18.heap.size w22.heap.size w' := fun W h => h.calls (Put_none (some ⟨w16.heap.size + 1, 0, none⟩) (xc [97] 1 false) 1 W (Or.inr ⟨_, rfl, h.ke.ee⟩))
          have kl2 : ∀ W, KF w l hd T2 w6.heap.size g cap w8.heap.size w13.heap.size w16.heap.size (w16.heap.size + 1) (w16.heap.size + 1 + 1) w18.heap.size w22.heap.size W → Calls Try.prog 13 #[.pointer none] W fun e w' => e = .returned (.int .i64 0) ∧ w' = W := fun W h => Len_none none W (Or.inl rfl)
          have khe : ∀ W, KF w l hd T2 w6.heap.size g cap w8.heap.size w13.heap.size w16.heap.size (w16.heap.size + 1) (w16.heap.size + 1 + 1) w18.heap.size w22.heap.size W → Calls Try.prog 17 #[.pointer (some ⟨w16.heap.size + 1, 0, none⟩)] W fun e w' => e = .returned (.slice none 0 0) ∧ w' = W := fun W h => Heights_none (some ⟨w16.heap.size + 1, 0, none⟩) W (Or.inr ⟨_, rfl, h.ke.ee⟩)
          clear ab1 aa1 aa2 aa0 i0 hi0 hz0 hz1 hz2
          have Pbox0 := fun W (h : (KF w l hd T2 w6.heap.size g cap w8.heap.size w13.heap.size w16.heap.size (w16.heap.size + 1) (w16.heap.size + 1 + 1) w18.heap.size w22.heap.size) W) => KF.box h
          have Ptwo0 := fun W (h : (KF w l hd T2 w6.heap.size g cap w8.heap.size w13.heap.size w16.heap.size (w16.heap.size + 1) (w16.heap.size + 1 + 1) w18.heap.size w22.heap.size) W) => KF.two h
          have Pdr0 := fun W (h : (KF w l hd T2 w6.heap.size g cap w8.heap.size w13.heap.size w16.heap.size (w16.heap.size + 1) (w16.heap.size + 1 + 1) w18.heap.size w22.heap.size) W) => KF.drew h
          have Pal0 := fun W (h : (KF w l hd T2 w6.heap.size g cap w8.heap.size w13.heap.size w16.heap.size (w16.heap.size + 1) (w16.heap.size + 1 + 1) w18.heap.size w22.heap.size) W) => KF.below h (W' := W.alloc (.cells #[.string ⟨#[98]⟩, .string ⟨#[120]⟩, .int .u64 1, .bool false, .string ⟨#[]⟩] 34)) ((Below.refl _ _).alloc (Nat.le_refl _) _)
          have Pfin0 := fun W (h : (KF w l hd T2 w6.heap.size g cap w8.heap.size w13.heap.size w16.heap.size (w16.heap.size + 1) (w16.heap.size + 1 + 1) w18.heap.size w22.heap.size) W) => (⟨h.ke.ks.df, h.d2, h.d3, h.ke.ks.be⟩ : W.heap[w8.heap.size]? = some (.deferred (some [])) ∧ W.heap[w18.heap.size]? = some (.deferred (some [])) ∧ W.heap[w22.heap.size]? = some (.deferred (some [])) ∧ Below w.heap.size w W)
          generalize (KF w l hd T2 w6.heap.size g cap w8.heap.size w13.heap.size w16.heap.size (w16.heap.size + 1) (w16.heap.size + 1 + 1) w18.heap.size w22.heap.size) = P at *
          have Pbox : Hid _ := Pbox0
          have Ptwo : Hid _ := Ptwo0
          have Pdr : Hid _ := Pdr0
          have Pal : Hid _ := Pal0
          have Pfin : Hid _ := Pfin0
          clear Pbox0 Ptwo0 Pdr0 Pal0 Pfin0
          have KW : Hid _ := kw
          have KB1 : Hid _ := kb1
          have KA1 : Hid _ := ka1
          have KA0 : Hid _ := ka0
          have KSM : Hid _ := ksm
          have KLN : Hid _ := kln
          have KP1 : Hid _ := kp1
          have KP2 : Hid _ := kp2
          have KP3 : Hid _ := kp3
          have KP4 : Hid _ := kp4
          have KP5 : Hid _ := kp5
          have KL2 : Hid _ := kl2
          have KHE : Hid _ := khe
          clear kw kb1 ka1 ka0 ksm kln kp1 kp2 kp3 kp4 kp5 kl2 khe
          obtain ⟨b0, n0⟩ := Pbox.out _ hF
          obtain ⟨⟨m0, m1, m2, m3, m4⟩, r0, r1, r2, r3, r4⟩ := Ptwo.out _ hF
          have heq := eqC_self (xc [97] 2 true)
          have hmx : Try.prog.follows .mixedOrders = true := by kernel_rfl
          refine wpIn_wide.2 ?_
          simp only [List.append_eq, List.cons_append, List.nil_append]
          go_region_held3 (fun w' => w'.cell? ⟨w6.heap.size, 0, none⟩ = some (.slice (some ⟨g, 0, none⟩) 1 cap) ∧ w'.cell? ⟨w16.heap.size + 1 + 1, 0, none⟩ = some (.int .i64 0) ∧ w'.cell? ⟨w13.heap.size, 0, none⟩ = some (.string ⟨#[97]⟩) ∧ w'.cell? ⟨w13.heap.size, 1, none⟩ = some (.string ⟨#[120]⟩) ∧ w'.cell? ⟨w13.heap.size, 2, none⟩ = some (.int .u64 2) ∧ w'.cell? ⟨w13.heap.size, 3, none⟩ = some (.bool true) ∧ w'.cell? ⟨w13.heap.size, 4, none⟩ = some (.string ⟨#[]⟩) ∧ w'.cell? ⟨w16.heap.size, 0, none⟩ = some (.string ⟨#[97]⟩) ∧ w'.cell? ⟨w16.heap.size, 1, none⟩ = some (.string ⟨#[120]⟩) ∧ w'.cell? ⟨w16.heap.size, 2, none⟩ = some (.int .u64 2) ∧ w'.cell? ⟨w16.heap.size, 3, none⟩ = some (.bool true) ∧ w'.cell? ⟨w16.heap.size, 4, none⟩ = some (.string ⟨#[]⟩)) (first | with_reducible exact ⟨b0, n0, m0, m1, m2, m3, m4, r0, r1, r2, r3, r4⟩ | go_keep)
            (first
              | (go_at_call 19; with_reducible refine (KW.out _ (by first | with_reducible exact hF | with_reducible exact Pdr.out _ hF)).mono ?_; rintro e W2 ⟨rfl, hF2⟩; clear hF b0 n0 m0 m1 m2 m3 m4 r0 r1 r2 r3 r4; have hF := hF2; clear hF2; obtain ⟨b0, n0⟩ := Pbox.out _ hF; obtain ⟨⟨m0, m1, m2, m3, m4⟩, r0, r1, r2, r3, r4⟩ := Ptwo.out _ hF)
              | (go_at_call 25; with_reducible refine (KB1.out _ (by first | with_reducible exact hF | with_reducible exact Pdr.out _ hF)).mono ?_; rintro e W2 ⟨rfl, hF2⟩; clear hF b0 n0 m0 m1 m2 m3 m4 r0 r1 r2 r3 r4; have hF := hF2; clear hF2; obtain ⟨b0, n0⟩ := Pbox.out _ hF; obtain ⟨⟨m0, m1, m2, m3, m4⟩, r0, r1, r2, r3, r4⟩ := Ptwo.out _ hF)
              | (go_at_call 23; with_reducible refine (KSM.out _ (by first | with_reducible exact hF | with_reducible exact Pdr.out _ hF)).mono ?_; rintro e W2 ⟨rfl, hF2⟩; clear hF b0 n0 m0 m1 m2 m3 m4 r0 r1 r2 r3 r4; have hF := hF2; clear hF2; obtain ⟨b0, n0⟩ := Pbox.out _ hF; obtain ⟨⟨m0, m1, m2, m3, m4⟩, r0, r1, r2, r3, r4⟩ := Ptwo.out _ hF)
              | (go_at_call 25; with_reducible refine (KA1.out _ (by first | with_reducible exact hF | with_reducible exact Pdr.out _ hF)).mono ?_; rintro e W2 ⟨rfl, hF2⟩; clear hF b0 n0 m0 m1 m2 m3 m4 r0 r1 r2 r3 r4; have hF := hF2; clear hF2; obtain ⟨b0, n0⟩ := Pbox.out _ hF; obtain ⟨⟨m0, m1, m2, m3, m4⟩, r0, r1, r2, r3, r4⟩ := Ptwo.out _ hF)
              | (go_at_call 25; with_reducible refine (KA0.out _ (by first | with_reducible exact hF | with_reducible exact Pdr.out _ hF)).mono ?_; rintro e W2 ⟨rfl, hF2⟩; clear hF b0 n0 m0 m1 m2 m3 m4 r0 r1 r2 r3 r4; have hF := hF2; clear hF2; obtain ⟨b0, n0⟩ := Pbox.out _ hF; obtain ⟨⟨m0, m1, m2, m3, m4⟩, r0, r1, r2, r3, r4⟩ := Ptwo.out _ hF)
              | (go_at_call 13; with_reducible refine (KLN.out _ (by first | with_reducible exact hF | with_reducible exact Pdr.out _ hF)).mono ?_; rintro e W2 ⟨rfl, rfl⟩)
              | (go_at_call 10; with_reducible refine (KP1.out _ (by first | with_reducible exact hF | with_reducible exact Pdr.out _ hF)).mono ?_; rintro e W2 ⟨rfl, hF2⟩; clear hF b0 n0 m0 m1 m2 m3 m4 r0 r1 r2 r3 r4; have hF := hF2; clear hF2; obtain ⟨b0, n0⟩ := Pbox.out _ hF; obtain ⟨⟨m0, m1, m2, m3, m4⟩, r0, r1, r2, r3, r4⟩ := Ptwo.out _ hF)
              | (go_at_call 10; with_reducible refine (KP2.out _ (by first | with_reducible exact hF | with_reducible exact Pdr.out _ hF)).mono ?_; rintro e W2 ⟨rfl, hF2⟩; clear hF b0 n0 m0 m1 m2 m3 m4 r0 r1 r2 r3 r4; have hF := hF2; clear hF2; obtain ⟨b0, n0⟩ := Pbox.out _ hF; obtain ⟨⟨m0, m1, m2, m3, m4⟩, r0, r1, r2, r3, r4⟩ := Ptwo.out _ hF)
              | (go_at_call 10; with_reducible refine (KP3.out _ (by first | with_reducible exact hF | with_reducible exact Pdr.out _ hF)).mono ?_; rintro e W2 ⟨rfl, hF2⟩; clear hF b0 n0 m0 m1 m2 m3 m4 r0 r1 r2 r3 r4; have hF := hF2; clear hF2; obtain ⟨b0, n0⟩ := Pbox.out _ hF; obtain ⟨⟨m0, m1, m2, m3, m4⟩, r0, r1, r2, r3, r4⟩ := Ptwo.out _ hF)
              | (go_at_call 10; with_reducible refine (KP4.out _ (by first | with_reducible exact hF | with_reducible exact Pdr.out _ hF)).mono ?_; rintro e W2 ⟨rfl, hF2⟩; clear hF b0 n0 m0 m1 m2 m3 m4 r0 r1 r2 r3 r4; have hF := hF2; clear hF2; obtain ⟨b0, n0⟩ := Pbox.out _ hF; obtain ⟨⟨m0, m1, m2, m3, m4⟩, r0, r1, r2, r3, r4⟩ := Ptwo.out _ hF)
              | (go_at_call 10; with_reducible refine (KP5.out _ (by first | with_reducible exact hF | with_reducible exact Pdr.out _ hF)).mono ?_; rintro e W2 ⟨rfl, hF2⟩; clear hF b0 n0 m0 m1 m2 m3 m4 r0 r1 r2 r3 r4; have hF := hF2; clear hF2; obtain ⟨b0, n0⟩ := Pbox.out _ hF; obtain ⟨⟨m0, m1, m2, m3, m4⟩, r0, r1, r2, r3, r4⟩ := Ptwo.out _ hF)
              | (go_at_call 13; with_reducible refine (KL2.out _ (by first | with_reducible exact hF | with_reducible exact Pdr.out _ hF)).mono ?_; rintro e W2 ⟨rfl, rfl⟩)
              | (go_at_call 17; with_reducible refine (KHE.out _ (by first | with_reducible exact hF | with_reducible exact Pdr.out _ hF)).mono ?_; rintro e W2 ⟨rfl, rfl⟩))
          all_goals
            obtain ⟨f1, f2, f3, f4⟩ := Pfin.out _ hF
            clear b0 n0 m0 m1 m2 m3 m4 r0 r1 r2 r3 r4 heq hmx KW KB1 KA1 KA0 KSM KLN KP1 KP2 KP3 KP4 KP5 KL2 KHE
            gi_wp2
            have hw8 : w.heap.size ≤ w8.heap.size := by have := HS0.out; have := hB6.size; omega
            refine ⟨by simp, .inl ⟨_, _, rfl, run_takeDeferred f3, ?_⟩⟩
            refine ⟨by simp, .inl ⟨_, _, rfl, run_takeDeferred ((World.putObj_heap_other (show w18.heap.size ≠ w22.heap.size by omega)).trans f2), ?_⟩⟩
            refine ⟨by simp, .inl ⟨_, _, rfl, run_takeDeferred ((World.putObj_heap_other (show w8.heap.size ≠ w18.heap.size by omega)).trans ((World.putObj_heap_other (show w8.heap.size ≠ w22.heap.size by omega)).trans f1)), ?_⟩⟩
            refine ⟨.bool true, by simp [results, Try.results7, go_sem], hRP.out _ ?_⟩
            refine f4.trans ((((Kp.refl _ (fun i => w.heap.size ≤ i)).put _ (Or.inl (show w.heap.size ≤ w22.heap.size by omega))).put _ (Or.inl (show w.heap.size ≤ w18.heap.size by omega))).put _ (Or.inl hw8) |>.below f4.size (fun i hi => hi))
    · exact hj.elim
  · clear hJ0 hW1 hW2 hbW
    intro m k X T' F j c W hc hm hX hS hj
    have hT' := hj.eT
    subst hT'
    rw [← HL.out] at hc hS
    have hLn : L.length ≤ 1000000 := by rw [HL.out]; simp
    rw [← HL.out]
    have key : ∀ RP : Ending → World → Prop, Hid (∀ W' F', Stt l hd k T' F' (L.drop (j + 1)) W' → LK w6 l hd T' (.slice none 0 0) L w8.heap.size RR T' (Un F' X) (j + 1) W' → (∀ i, X i → ¬ F' i ∧ W'.heap[i]? = W.heap[i]?) → RP (.returned (.bool true)) W') → YieldAt Fence.wide m Try.prog (w8.heap.size + 1) #[clV c] W RP := by
      intro RP hT
      obtain ⟨rv, h1, h2, h3⟩ := hj.ro
      have hb : Below W.heap.size W (W.alloc (.cells #[.string (bstr c.row), .string (bstr c.col), .int .u64 c.ver, .bool c.gone, .string (bstr c.val)] 34)) := (Below.refl _ _).alloc (Nat.le_refl _) _
      have hcA := CellAt.new W 34 c.row c.col c.ver c.gone c.val
      refine yield_round2 hj.rc hRR rfl ?_
      have HC : Hid _ := hc
      clear hc
      gi_wp2
      generalize hWa : W.alloc (.cells #[.string (bstr c.row), .string (bstr c.col), .int .u64 c.ver, .bool c.gone, .string (bstr c.val)] 34) = Wa at *
      have hrca := (hb.block _ (blk_lt hj.rc)).trans hj.rc
      refine ⟨_, run_beginRound hrca hRR.s, ?_⟩
      obtain ⟨q, cap, hrv⟩ : ∃ q cap, rv = .slice q j cap := by
        rcases h2.2 with ⟨e, e0⟩ | ⟨g, cap, cur, e, _⟩
        · exact ⟨none, 0, by rw [e, e0]⟩
        · exact ⟨_, _, e⟩
      have hlw := blk_lt h1
      have hlr := blk_lt hj.rc
      have hwr : w6.heap.size ≠ w8.heap.size + 1 := by have := hs1; omega
      have hrb : ∀ i, rv.ownBlock = some i → i ≠ w8.heap.size + 1 ∧ i ≠ w6.heap.size ∧ i ≠ w8.heap.size := fun i hi => by
        obtain ⟨_, _, cur, hc⟩ := own_blk_lt h2 hi
        refine ⟨fun e => ?_, fun e => ?_, fun e => ?_⟩
        · rw [e, hj.rc] at hc; cases hc
        · rw [e, h1] at hc; cases hc
        · rw [e, hj.df] at hc; cases hc
      have hKb : Kp W (Wa.putObj (w8.heap.size + 1) (.loop { RR with state := .busy })) (fun i => i = w8.heap.size + 1 ∨ i = w6.heap.size ∨ rv.ownBlock = some i) := (Kp.of_below _ hb).put _ (Or.inl (Or.inl rfl))
      have hob : (Wa.putObj (w8.heap.size + 1) (.loop { RR with state := .busy })).heap[w6.heap.size]? = some (.cells #[rv] 25 (0, 0)) := (World.putObj_heap_other hwr).trans ((hb.block _ hlw).trans h1)
      have hrw : (Wa.putObj (w8.heap.size + 1) (.loop { RR with state := .busy })).ownsRow w6.heap.size 34 5 rv j (ccells (L.take j)) := own_kept h2 fun i hi => (World.putObj_heap_other (hrb i hi).1).trans (hb.block _ (own_blk_lt h2 hi).1)
      have hrc : (Wa.putObj (w8.heap.size + 1) (.loop { RR with state := .busy })).heap[w8.heap.size + 1]? = some (.loop { RR with state := .busy }) := World.putObj_heap_same (blk_lt hrca)
      have hca : CellAt (Wa.putObj (w8.heap.size + 1) (.loop { RR with state := .busy })) W.heap.size c.row c.col c.ver c.gone c.val := by
        have hcell : ∀ o, (Wa.putObj (w8.heap.size + 1) (.loop { RR with state := .busy })).cell? ⟨W.heap.size, o, none⟩ = Wa.cell? ⟨W.heap.size, o, none⟩ := fun o => by simp only [World.cell?, World.putObj_heap_other (show W.heap.size ≠ w8.heap.size + 1 by omega)]
        exact ⟨by rw [hcell]; exact hcA.c0, by rw [hcell]; exact hcA.c1, by rw [hcell]; exact hcA.c2, by rw [hcell]; exact hcA.c3, by rw [hcell]; exact hcA.c4⟩
      generalize Wa.putObj (w8.heap.size + 1) (.loop { RR with state := .busy }) = Wb at *
      have hoc : Wb.cell? ⟨w6.heap.size, 0, none⟩ = some (.slice q j cap) := by simp [World.cell?, hob, hrv]
      obtain ⟨e0, e1, e2, e3, e4⟩ := id hca
      have hszb := hKb.size
      have hjl : j < L.length := by
        rcases Nat.lt_or_ge j L.length with a | a
        · exact a
        · have hcc := HC.out
          rw [List.getElem?_eq_none a] at hcc; cases hcc
      have hjn : j < 1000000 := by omega
      have HJL : Hid _ := hjl
      have HRV : Hid _ := hrv
      have hbase : w6.heap.size ≤ Wb.heap.size := Nat.le_trans hj.kp.size hszb
      clear hWa hcA hca hrca hjl hrv
      gi_wp2_with (gi_at_builtin; refine wpListIn_app _ rfl _ _ 25 rfl w6.heap.size 34 i0 (.agg #[.string ⟨#[]⟩, .string ⟨#[]⟩, .int .u64 0, .bool false, .string ⟨#[]⟩]) 5 64 Try.underlying25 hi0 hz0 hz1 hz2 rfl (by decide) rv j _ HRV.out.symm (hrw.alloc _) ⟨Wb.heap.size, 0, none⟩ 1 1 (encC c) (by omega) rfl rfl (cell_news Wb c 34) (encC_one _) ?c3 ?c4 ?c5 ?_)
      case c3 => unfold maxLen; omega
      case c4 => omega
      case c5 => simp; omega
      intro v3 W3 hown3 hgrow hwh
      obtain ⟨q3, cap3, rfl⟩ : ∃ q3 cap3, v3 = .slice q3 (j + 1) cap3 := by
        rcases hown3.2 with ⟨_, e0⟩ | ⟨g, cap, cur, e, _⟩
        · omega
        · exact ⟨_, _, e⟩
      have hK3 : Kp Wb W3 (fun i => rv.ownBlock = some i) := (Kp.of_below _ ((Below.refl _ _).alloc (Nat.le_refl _) _)).trans (Kp.of_grown hgrow (fun k e => e)) (fun i hi => Or.inl hi)
      have ho3 := (hK3.block _ (blk_lt hob) (fun e => (hrb _ e).2.1 rfl)).trans hob
      have hr3 := (hK3.block _ (blk_lt hrc) (fun e => (hrb _ e).1 rfl)).trans hrc
      have ho3c : W3.cell? ⟨w6.heap.size, 0, none⟩ = some rv := by simp [World.cell?, ho3]
      have ho3f : W3.frozen? ⟨w6.heap.size, 0, none⟩ = false := by simp [World.frozen?, ho3]
      clear hoc e0 e1 e2 e3 e4
      gi_wp2
      have hr4 : (W3.setCell ⟨w6.heap.size, 0, none⟩ (.slice q3 (j + 1) cap3)).heap[w8.heap.size + 1]? = some (.loop { RR with state := .busy }) := (heap_set_other _ (Ne.symm hwr)).trans hr3
      refine ⟨_, _, run_endRound (r := { RR with state := .busy }) none hr4, ?_⟩
      have eRR : ({ RR with state := .ready, pending := none } : Loop) = RR := by
        have e1 := hRR.s
        have e2 := hRR.e
        cases RR
        simp_all
      have hK5 : Kp W ((W3.setCell ⟨w6.heap.size, 0, none⟩ (.slice q3 (j + 1) cap3)).putObj (w8.heap.size + 1) (.loop RR)) (fun i => i = w8.heap.size + 1 ∨ i = w6.heap.size ∨ rv.ownBlock = some i) := ((hKb.trans hK3 (fun i hi => Or.inl (Or.inr (Or.inr hi)))).setCell _ (Or.inl (Or.inr (Or.inl rfl)))).put _ (Or.inl (Or.inl rfl))
      have hUn : ∀ i, Un F X i → i < W.heap.size ∧ ¬ (i = w8.heap.size + 1 ∨ i = w6.heap.size ∨ rv.ownBlock = some i) := fun i hi => by
        refine ⟨?_, ?_⟩
        · rcases hi with hi | hi
          · obtain ⟨_, _, _, _, _, hSS⟩ := hS
            exact hSS.lt i hi
          · exact (hX i hi).1
        · rintro (rfl | rfl | e)
          · exact hj.nl hi
          · exact hj.nb hi
          · exact h3 i e hi
      have hv3 : ∀ i, (Value.slice q3 (j + 1) cap3).ownBlock = some i → i ≠ w6.heap.size ∧ i ≠ w8.heap.size + 1 ∧ ¬ Un F X i := fun i hi => by
        obtain ⟨_, _, cur, hc⟩ := own_blk_lt hown3 hi
        refine ⟨fun e => ?_, fun e => ?_, fun hu => ?_⟩
        · rw [e, ho3] at hc; cases hc
        · rw [e, hr3] at hc; cases hc
        · rcases hwh with e | e
          · exact h3 i (e ▸ hi) hu
          · rw [e] at hi
            cases hi
            have := (hUn _ hu).1
            omega
      have hgo := hT.out ((W3.setCell ⟨w6.heap.size, 0, none⟩ (.slice q3 (j + 1) cap3)).putObj (w8.heap.size + 1) (.loop RR)) F (hS.kept hK5.size fun i hi => hK5.block i (hUn i (Or.inl hi)).1 (hUn i (Or.inl hi)).2) ?lj (fun i hi => ⟨(hX i hi).2, hK5.block i (hUn i (Or.inr hi)).1 (hUn i (Or.inr hi)).2⟩)
      · have e5 : ({ state := if (none : Option Code).isNone = true then LoopState.ready else LoopState.done, pending := none, fn := RR.fn, tmps := RR.tmps, params := RR.params, assign := RR.assign, body := RR.body, defers := RR.defers } : Loop) = RR := eRR
        show RP _ (World.putObj _ _ (Obj.loop _))
        rw [e5]
        exact hgo
      · refine ⟨rfl, hj.kp.trans hK5 (fun i hi => Or.inr ?_), hj.fo, World.putObj_heap_same (by have := blk_lt hr4; exact this), (hK5.block _ (blk_lt hj.df) ?_).trans hj.df, hj.nl, hj.nd, hj.nb, .slice q3 (j + 1) cap3, ?_, ?_, fun i hi => (hv3 i hi).2.2⟩
        · rcases hi with rfl | rfl | e
          · have := hs1; omega
          · exact Nat.le_refl _
          · exact (own_blk_lt h2 e).2.1
        · rintro (e | e | e)
          · omega
          · have := hs1; omega
          · exact (hrb _ e).2.2 rfl
        · rw [World.putObj_heap_other hwr, heap_set_same ho3]
          rfl
        · rw [show ccells (L.take (j + 1)) = ccells (L.take j) ++ encC c by
            have hjl := HJL.out
            have hcc := HC.out
            rw [List.getElem?_eq_getElem hjl] at hcc
            rw [List.take_succ_eq_append_getElem hjl, ccells_append]
            congr 1
            simp only [Option.some.injEq] at hcc
            rw [hcc]
            simp [ccells]]
          exact own_kept hown3 fun i hi => (World.putObj_heap_other (hv3 i hi).2.1).trans (heap_set_other _ (hv3 i hi).1)
    exact key _ (fun W' F' h1 h2 h3 => Or.inl ⟨rfl, T', F', h1, h2, h3⟩)

end Go.Proofs.Ytmekcfbopjgbeaa
