/-
  The law's own works.
-/
import Derived.Test.YtijfmgpipnhkkaaSPutL
namespace Go.Proofs.Ytijfmgpipnhkkaa
open Go.RowKit Go.BigFrame Go.Sort
attribute [local go_sem] size_bstr toList_bstr ls_def
attribute [local go_sem high] cell_eql5 cell_neq5 cell_guard

/-- Put of a cell that may be, where no walk is under way. -/
theorem Put_fine (l hd : Nat) (T : List Tw) (v : Value) (c : Cl) (h : Nat) (w : World) (hL : Ls w l hd T v []) (hm : mayCl c = true) (hh1 : 1 ≤ h) (hh2 : h ≤ 12) (hlen : T.length < 4611686018427387904) :
    Calls Try.prog 6 #[.pointer (some ⟨l, 0, none⟩), clV c, .int .i64 (h : Int)] w fun e w' => e = .returned (.int .i64 0) ∧ ∃ T', PutT c h w.heap.size T T' ∧ Ls w' l hd T' (.slice none 0 0) [] ∧ Kp w w' (Ow l hd T v) := by
  refine (Put_ok l hd T v [] c h (fun i => i = l) (fun _ => True) w hL hm hh1 hh2 hlen (fun w1 hb => (part_none l hd T v w1 (hL.below hb)).mono fun e w2 q => ⟨q.1, q.2.1, q.2.2, trivial⟩) (fun i e => by subst e; exact hL.blk.lt) (fun _ _ _ _ _ => trivial)).mono ?_
  rintro e w' ⟨rfl, T', hP, hL', hK, _⟩
  refine ⟨rfl, T', hP, hL', hK.mono fun i hi => Or.inl ?_⟩
  rcases hi with rfl | hi
  · exact Or.inl rfl
  · exact hi
theorem wk_put : putC (xc [97] 2 false) (putC (xc [97] 1 false) (putC (xc [98] 1 false) [])) = wk3 := by rfl
theorem ow_base {l hd n0 n1 : Nat} {c : Cl} {h : Nat} {T T' : List Tw} {v : Value} (hP : PutT c h n1 T T') (ho : ∀ i, Ow l hd T v i → n0 ≤ i) (hn : n0 ≤ n1) : ∀ i, Ow l hd T' (.slice none 0 0) i → n0 ≤ i := fun i hi => by
  rcases hP.foot (v := v) hi with a | a
  · exact ho i a
  · omega

/-- The world of works' last test: the list, and the cell that was got. -/
structure WkS (n0 l hd : Nat) (T : List Tw) (bc : Nat) (w W : World) : Prop where
  ls : ∃ v, Ls W l hd T v [] ∧ ∀ i, Ow l hd T v i → n0 ≤ i
  bx : W.heap[bc]? = some (.cells #[.string ⟨#[97]⟩, .string ⟨#[120]⟩, .int .u64 2, .bool false, .string ⟨#[]⟩] 34 (0, 0))
  be : Below n0 w W
theorem WkS.below {n0 l hd : Nat} {T : List Tw} {bc : Nat} {w W W' : World} (h : WkS n0 l hd T bc w W) (hb : Below W.heap.size W W') (hn : n0 ≤ w.heap.size) : WkS n0 l hd T bc w W' := by
  obtain ⟨v, h1, h2⟩ := h.ls
  exact ⟨⟨v, h1.below hb, h2⟩, (hb.block _ (blk_lt h.bx)).trans h.bx, h.be.trans (hb.mono (Nat.le_trans hn h.be.size))⟩
theorem WkS.drew {n0 l hd : Nat} {T : List Tw} {bc : Nat} {w W : World} (h : WkS n0 l hd T bc w W) : WkS n0 l hd T bc w W.drew := by
  obtain ⟨v, h1, h2⟩ := h.ls
  exact ⟨⟨v, h1.kept fun _ _ => rfl, h2⟩, h.bx, h.be.drew⟩
theorem WkS.cells {n0 l hd : Nat} {T : List Tw} {bc : Nat} {w W : World} (h : WkS n0 l hd T bc w W) : W.cell? ⟨bc, 0, none⟩ = some (.string ⟨#[97]⟩) ∧ W.cell? ⟨bc, 1, none⟩ = some (.string ⟨#[120]⟩) ∧ W.cell? ⟨bc, 2, none⟩ = some (.int .u64 2) ∧ W.cell? ⟨bc, 3, none⟩ = some (.bool false) ∧ W.cell? ⟨bc, 4, none⟩ = some (.string ⟨#[]⟩) := by
  have hb := h.bx
  refine ⟨?_, ?_, ?_, ?_, ?_⟩ <;> simp [World.cell?, hb]
/-- What list tells there. -/
theorem WkS.list {n0 l hd : Nat} {T : List Tw} {bc : Nat} {w W : World} (h : WkS n0 l hd T bc w W) (hn : n0 ≤ w.heap.size) (hT : T.map (fun t => t.c) = wk3) :
    Calls Try.prog 29 #[.pointer (some ⟨l, 0, none⟩)] W fun e W' => ∃ g cap, e = .returned (.slice (some ⟨g, 0, none⟩) 3 cap) ∧ CRow W' g 0 wk3 ∧ WkS n0 l hd T bc w W' := by
  obtain ⟨v, h1, h2⟩ := h.ls
  have hl : T.length = 3 := by have := congrArg List.length hT; simpa [wk3] using this
  refine (list_any l hd T v W h1 (by omega)).mono ?_
  rintro e W' ⟨r, v', rfl, hr, hL, hK, hO, _⟩
  rw [hT] at hr
  have hr2 : W'.ownsRow W.heap.size 34 5 r wk3.length (ccells wk3) := by rw [hl] at hr; exact hr
  obtain ⟨g, cap, rfl, _, _, _, _, hCR, _⟩ := own_crow hr2 (by simp [wk3])
  have hsz := h.be.size
  refine ⟨g, cap, rfl, hCR, ⟨v', hL, fun i hi => ?_⟩, (hK.block bc (blk_lt h.bx) (h1.other h.bx (by decide))).trans h.bx, h.be.trans (hK.below (Nat.le_trans hn hsz) h2)⟩
  rcases hO i hi with a | a
  · exact h2 i a
  · exact Nat.le_trans (Nat.le_trans hn hsz) a

theorem WkS.len {n0 l hd : Nat} {T : List Tw} {bc : Nat} {w W : World} (h : WkS n0 l hd T bc w W) (hT : T.map (fun t => t.c) = wk3) :
    Calls Try.prog 9 #[.pointer (some ⟨l, 0, none⟩)] W fun e W' => e = .returned (.int .i64 3) ∧ W' = W := by
  obtain ⟨v, h1, _⟩ := h.ls
  have hl : T.length = 3 := by have := congrArg List.length hT; simpa [wk3] using this
  have := SLen_any l hd T v [] W h1
  rw [hl] at this
  exact this

set_option maxHeartbeats 4000000 in
set_option maxRecDepth 100000 in
theorem works8_any (w : World) :
    Calls Try.prog 15 #[] w fun e w' => e = .returned (.bool true) ∧ Below w.heap.size w w' := by
  have ab1 : ∀ W, Calls Try.prog 27 #[.string ⟨#[98]⟩, .int .u64 1] W fun e w' => e = .returned (.agg #[.string ⟨#[98]⟩, .string ⟨#[120]⟩, .int .u64 1, .bool false, .string ⟨#[]⟩]) ∧ Below W.heap.size W w' := fun W => at8_any [98] 1 W
  have aa1 : ∀ W, Calls Try.prog 27 #[.string ⟨#[97]⟩, .int .u64 1] W fun e w' => e = .returned (.agg #[.string ⟨#[97]⟩, .string ⟨#[120]⟩, .int .u64 1, .bool false, .string ⟨#[]⟩]) ∧ Below W.heap.size W w' := fun W => at8_any [97] 1 W
  have aa2 : ∀ W, Calls Try.prog 27 #[.string ⟨#[97]⟩, .int .u64 2] W fun e w' => e = .returned (.agg #[.string ⟨#[97]⟩, .string ⟨#[120]⟩, .int .u64 2, .bool false, .string ⟨#[]⟩]) ∧ Below W.heap.size W w' := fun W => at8_any [97] 2 W
  go_enter Try.func15, Try.ntmps15
  go_wp2_with fail
  refine (New_any w).mono ?_
  rintro e w0 ⟨rfl, hL0, hb0⟩
  have hO0 : ∀ i, Ow (w.heap.size + 1) w.heap.size [] (.slice none 0 0) i → w.heap.size ≤ i := fun i hi => by
    rcases hi with rfl | rfl | ⟨t, ht, _⟩ | hi
    · exact Nat.le_succ _
    · exact Nat.le_refl _
    · simp at ht
    · cases hi
  go_wp2_with fail
  refine (ab1 _).mono ?_
  rintro e w1 ⟨rfl, hb1⟩
  have hL1 := hL0.below hb1
  have hB1 := below2 hb0 hb1
  clear hL0 hb0 hb1
  go_wp2_with fail
  refine (Put_fine _ _ [] _ (xc [98] 1 false) 3 w1 hL1 (by decide) (by omega) (by omega) (by simp)).mono ?_
  rintro e w2 ⟨rfl, T2, hP2, hL2, hK2⟩
  have hO2 := ow_base hP2 hO0 hB1.size
  have hB2 : Below w.heap.size w w2 := hB1.trans (hK2.below hB1.size hO0)
  have hT2 := hP2.cells
  have hl2 := hP2.length
  clear hL1 hP2 hK2 hB1
  go_wp2_with fail
  refine (aa1 _).mono ?_
  rintro e w3 ⟨rfl, hb3⟩
  have hL3 := hL2.below hb3
  have hB3 := below2 hB2 hb3
  clear hL2 hb3 hB2
  go_wp2_with fail
  refine (Put_fine _ _ T2 _ (xc [97] 1 false) 1 w3 hL3 (by decide) (by omega) (by omega) (by simp at hl2; omega)).mono ?_
  rintro e w4 ⟨rfl, T4, hP4, hL4, hK4⟩
  have hO4 := ow_base hP4 hO2 hB3.size
  have hB4 : Below w.heap.size w w4 := hB3.trans (hK4.below hB3.size hO2)
  have hT4 := hP4.cells
  have hl4 := hP4.length
  clear hL3 hP4 hK4 hB3
  go_wp2_with fail
  refine (aa2 _).mono ?_
  rintro e w5 ⟨rfl, hb5⟩
  have hL5 := hL4.below hb5
  have hB5 := below2 hB4 hb5
  clear hL4 hb5 hB4
  go_wp2_with fail
  refine (Put_fine _ _ T4 _ (xc [97] 2 false) 12 w5 hL5 (by decide) (by omega) (by omega) (by simp at hl2; omega)).mono ?_
  rintro e w6 ⟨rfl, T, hP6, hL6, hK6⟩
  have hO6 := ow_base hP6 hO4 hB5.size
  have hB6 : Below w.heap.size w w6 := hB5.trans (hK6.below hB5.size hO4)
  have hT : T.map (fun t => t.c) = wk3 := by
    rw [hP6.cells, hT4, hT2]
    exact wk_put
  clear hL5 hP6 hK6 hB5 hT4 hT2 hl2 hl4 hO0 hO2 hO4
  have hGet : Calls Try.prog 7 #[.pointer (some ⟨w.heap.size + 1, 0, none⟩), .string ⟨#[97]⟩, .string ⟨#[120]⟩] w6 fun e w' => e = .returned (.tuple #[.agg #[.string ⟨#[97]⟩, .string ⟨#[120]⟩, .int .u64 2, .bool false, .string ⟨#[]⟩], .bool true]) ∧ Below w6.heap.size w6 w' := by
    rcases T with _ | ⟨t1, _ | ⟨t2, _ | ⟨t3, _ | ⟨t4, T⟩⟩⟩⟩
    · simp [wk3] at hT
    · simp [wk3] at hT
    · simp [wk3] at hT
    · simp only [List.map_cons, List.map_nil, wk3, List.cons.injEq, and_true] at hT
      obtain ⟨h1, h2, h3⟩ := hT
      have := Get_yes (w.heap.size + 1) w.heap.size [] [t2, t3] t1 (.slice none 0 0) [] [97] [120] w6 hL6 (by simp) (by
        intro t ht
        simp at ht
        rcases ht with rfl | rfl | rfl
        · rw [h1]; decide
        · rw [h2]; decide
        · rw [h3]; decide) (by rw [h1]; rfl) (by rw [h1]; rfl)
      rw [h1] at this
      exact this
    · simp [wk3] at hT
  go_wp2_with fail
  refine hGet.mono ?_
  rintro e w7 ⟨rfl, hb7⟩
  have hS : WkS w.heap.size (w.heap.size + 1) w.heap.size T w7.heap.size w (w7.alloc (.cells #[.string ⟨#[97]⟩, .string ⟨#[120]⟩, .int .u64 2, .bool false, .string ⟨#[]⟩] 34)) := by
    have hb8 : Below w7.heap.size w7 (w7.alloc (.cells #[.string ⟨#[97]⟩, .string ⟨#[120]⟩, .int .u64 2, .bool false, .string ⟨#[]⟩] 34)) := (Below.refl _ _).alloc (Nat.le_refl _) _
    exact ⟨⟨_, (hL6.below hb7).below hb8, hO6⟩, heap_alloc_new _ _, below2 (below2 hB6 hb7) hb8⟩
  clear hGet hL6 hb7 hB6 hO6
  go_upto_region 5 with fail
  generalize w7.alloc (.cells #[.string ⟨#[97]⟩, .string ⟨#[120]⟩, .int .u64 2, .bool false, .string ⟨#[]⟩] 34) = W at *
  obtain ⟨c0, c1, c2, c3, c4⟩ := hS.cells
  have HT : Hid _ := hT
  clear hT
  have hln := fun X (h : WkS w.heap.size (w.heap.size + 1) w.heap.size T w7.heap.size w X) => h.len HT.out
  have HLN : Hid _ := hln
  clear hln
  go_region_held3 (fun w' => w'.cell? ⟨w7.heap.size, 0, none⟩ = some (.string ⟨#[97]⟩) ∧ w'.cell? ⟨w7.heap.size, 1, none⟩ = some (.string ⟨#[120]⟩) ∧ w'.cell? ⟨w7.heap.size, 2, none⟩ = some (.int .u64 2) ∧ w'.cell? ⟨w7.heap.size, 3, none⟩ = some (.bool false) ∧ w'.cell? ⟨w7.heap.size, 4, none⟩ = some (.string ⟨#[]⟩)) (first | with_reducible exact ⟨c0, c1, c2, c3, c4⟩ | go_keep)
    (first
      | (go_at_call 29; refine (hS.drew.list (Nat.le_refl _) HT.out).mono ?_; rintro e W2 ⟨g, cap, rfl, hCR, hS2⟩; clear hS c0 c1 c2 c3 c4; have hS := hS2; clear hS2; obtain ⟨c0, c1, c2, c3, c4⟩ := hS.cells)
      | (go_at_call 27; refine (aa2 _).mono ?_; rintro e W3 ⟨rfl, hb⟩; replace hCR := hCR.step hb (hCR 0 (by decide)).lt; replace hS := hS.below hb (Nat.le_refl _); clear c0 c1 c2 c3 c4 hb; obtain ⟨W2, rfl⟩ : ∃ W2, W2 = W3 := ⟨_, rfl⟩; obtain ⟨c0, c1, c2, c3, c4⟩ := hS.cells)
      | (go_at_call 27; refine (aa1 _).mono ?_; rintro e W3 ⟨rfl, hb⟩; replace hCR := hCR.step hb (hCR 0 (by decide)).lt; replace hS := hS.below hb (Nat.le_refl _); clear c0 c1 c2 c3 c4 hb; obtain ⟨W2, rfl⟩ : ∃ W2, W2 = W3 := ⟨_, rfl⟩; obtain ⟨c0, c1, c2, c3, c4⟩ := hS.cells)
      | (go_at_call 27; refine (ab1 _).mono ?_; rintro e W3 ⟨rfl, hb⟩; replace hCR := hCR.step hb (hCR 0 (by decide)).lt; replace hS := hS.below hb (Nat.le_refl _); clear c0 c1 c2 c3 c4 hb; obtain ⟨W2, rfl⟩ : ∃ W2, W2 = W3 := ⟨_, rfl⟩; obtain ⟨c0, c1, c2, c3, c4⟩ := hS.cells)
      | (go_at_call 28; refine (same8_any (some ⟨g, 0, none⟩) (some ⟨W2.heap.size, 0, none⟩) g 0 cap W2.heap.size 0 3 wk3 _ (fun _ => ⟨rfl, hCR.step ((Below.refl _ _).alloc (Nat.le_refl _) _) (hCR 0 (by decide)).lt⟩) (fun _ => ⟨rfl, CRow.lit W2 wk3 34⟩) (by decide)).mono ?_; rintro e W3 ⟨rfl, hb⟩; replace hS := (hS.below ((Below.refl _ _).alloc (Nat.le_refl _) _) (Nat.le_refl _)).below hb (Nat.le_refl _); clear hCR c0 c1 c2 c3 c4 hb; obtain ⟨c0, c1, c2, c3, c4⟩ := hS.cells)
      | (go_at_call 27; refine (aa2 _).mono ?_; rintro e W4 ⟨rfl, hb⟩; replace hS := hS.below hb (Nat.le_refl _); clear c0 c1 c2 c3 c4 hb; obtain ⟨c0, c1, c2, c3, c4⟩ := hS.cells)
      | (go_at_call 9; refine (HLN.out _ hS).mono ?_; rintro e W5 ⟨rfl, rfl⟩))
  go_wp2
  go_ret
  exact ⟨rfl, hS.be⟩

end Go.Proofs.Ytijfmgpipnhkkaa
