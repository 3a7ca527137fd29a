/-
  The contract of ahead: of each level the last tower there that stands ahead of a cell.
-/
import Derived.Test.YtijfmgpipnhkkaaSFn
namespace Go.Proofs.Ytijfmgpipnhkkaa
open Go.RowKit Go.BigFrame Go.Sort
attribute [local go_sem] size_bstr toList_bstr ls_def

/-- The world of a search: the cell's block, the answer's, the row of those found. -/
structure Ah (w : World) (c : Cl) (W : World) (g : Nat → Value) : Prop where
  bel : Below w.heap.size w W
  cb : W.heap[w.heap.size]? = some (.cells #[.string (bstr c.row), .string (bstr c.col), .int .u64 c.ver, .bool c.gone, .string (bstr c.val)] 34 (0, 0))
  rb : W.heap[w.heap.size + 1]? = some (.cells (a12 fun _ => .pointer none) 52 (0, 0))
  lb : W.heap[w.heap.size + 1 + 1]? = some (.cells (a12 g) 52 (0, 0))
theorem Ah.step {w : World} {c : Cl} {W W' : World} {g : Nat → Value} (h : Ah w c W g) (hb : Below W.heap.size W W') : Ah w c W' g := by
  have h1 := blk_lt h.lb
  exact ⟨below2 h.bel hb, (hb.block _ (by omega)).trans h.cb, (hb.block _ (by omega)).trans h.rb, (hb.block _ h1).trans h.lb⟩
theorem Ah.cells {w : World} {c : Cl} {W : World} {g : Nat → Value} (h : Ah w c W g) : CellAt W w.heap.size c.row c.col c.ver c.gone c.val := by
  have hb := h.cb
  refine ⟨?_, ?_, ?_, ?_, ?_⟩ <;> (simp only [World.cell?, hb]; rfl)
theorem Ah.row {w : World} {c : Cl} {W : World} {g : Nat → Value} (h : Ah w c W g) {n : Nat} (hn : n < 12) : W.cell? ⟨w.heap.size + 1 + 1, n, none⟩ = some (g n) ∧ W.frozen? ⟨w.heap.size + 1 + 1, n, none⟩ = false := by
  have hb := h.lb
  refine ⟨?_, by simp [World.frozen?, hb]⟩
  simp only [World.cell?, hb]
  exact a12_get hn
theorem Ah.set {w : World} {c : Cl} {W : World} {g : Nat → Value} (h : Ah w c W g) {n : Nat} (hn : n < 12) (v : Value) : Ah w c (W.setCell ⟨w.heap.size + 1 + 1, n, none⟩ v) (upd g n v) := by
  refine ⟨h.bel.setCell (p := ⟨w.heap.size + 1 + 1, n, none⟩) (by simp; omega) v, (heap_set_other _ (by omega)).trans h.cb, (heap_set_other _ (by omega)).trans h.rb, ?_⟩
  rw [heap_set_same h.lb, a12_set hn]
theorem Ah.start (w : World) (c : Cl) : Ah w c (((w.alloc (.cells #[.string (bstr c.row), .string (bstr c.col), .int .u64 c.ver, .bool c.gone, .string (bstr c.val)] 34)).alloc (.cells (a12 fun _ => .pointer none) 52)).alloc (.cells (a12 fun _ => .pointer none) 52)) (fun _ => .pointer none) := by
  refine ⟨(((Below.refl _ _).alloc (Nat.le_refl _) _).alloc (by simp) _).alloc (by simp; omega) _, ?_, ?_, ?_⟩
  · exact (Below.heap_alloc _ _ _ (by simp; omega)).trans ((Below.heap_alloc _ _ _ (by simp)).trans (heap_alloc_new w _))
  · refine (Below.heap_alloc _ _ _ (by simp)).trans ?_
    have := heap_alloc_new (w.alloc (.cells #[.string (bstr c.row), .string (bstr c.col), .int .u64 c.ver, .bool c.gone, .string (bstr c.val)] 34)) (.cells (a12 fun _ => .pointer none) 52)
    simpa using this
  · have := heap_alloc_new ((w.alloc (.cells #[.string (bstr c.row), .string (bstr c.col), .int .u64 c.ver, .bool c.gone, .string (bstr c.val)] 34)).alloc (.cells (a12 fun _ => .pointer none) 52)) (.cells (a12 fun _ => .pointer none) 52)
    simpa using this
theorem Ah.drew {w : World} {c : Cl} {W : World} {g : Nat → Value} (h : Ah w c W g) : Ah w c W.drew g := ⟨h.bel.drew, h.cb, h.rb, h.lb⟩
theorem Ah.drewN {w : World} {c : Cl} {W : World} {g : Nat → Value} (h : Ah w c W g) (q : Nat) : Ah w c (W.drewN q) g := ⟨⟨h.bel.os, h.bel.tape, h.bel.output, h.bel.size, h.bel.block⟩, h.cb, h.rb, h.lb⟩
theorem TwAt.below {w w' : World} {b : Nat} {c : Cl} {f : Nat → Option Nat} (h : TwAt w b c f) (hb : Below w.heap.size w w') : TwAt w' b c f := (hb.block b h.lt).trans h
theorem TwAt.drew {w : World} {b : Nat} {c : Cl} {f : Nat → Option Nat} (h : TwAt w b c f) : TwAt w.drew b c f := h
theorem tail_mem {α : Type} {x : α} {A X Y : List α} {t u : α} (h : x :: A = X ++ t :: Y) (hu : u ∈ Y) : u ∈ A := by
  cases X with
  | nil => simp at h; rw [h.2]; exact hu
  | cons a X => simp at h; rw [h.2]; simp [hu]
theorem row_f {HA : List Tw} {g : Nat → Value} (hg : ∀ k, k < 12 → ∃ t, Last k HA t ∧ g k = .pointer (some ⟨t.b, 0, none⟩)) :
    ∃ f : Nat → Nat, (∀ k, k < 12 → ∃ t, Last k HA t ∧ f k = t.b) ∧ ∀ k, k < 12 → g k = .pointer (some ⟨f k, 0, none⟩) := by
  refine ⟨fun k => if h : k < 12 then (Classical.choose (hg k h)).b else 0, fun k hk => ?_, fun k hk => ?_⟩
  · refine ⟨_, (Classical.choose_spec (hg k hk)).1, ?_⟩
    simp [hk]
  · simp only [hk, dite_true]
    exact (Classical.choose_spec (hg k hk)).2
theorem row_set {W : World} {n : Nat} {z : Nat → Value} {t : TypeId} (h : W.heap[n]? = some (.cells (a12 z) t (0, 0))) {k : Nat} (hk : k < 12) (v : Value) : (W.setCell ⟨n, k, none⟩ v).heap[n]? = some (.cells (a12 (upd z k v)) t (0, 0)) := by
  rw [heap_set_same h, a12_set hk]
theorem set12_reads {W : World} {n : Nat} {g z : Nat → Value} {t : TypeId} (h : W.heap[n]? = some (.cells (a12 z) t (0, 0))) {W' : World}
    (hW : (((((((((((W.setCell ⟨n, 0, none⟩ (g 0)).setCell ⟨n, 1, none⟩ (g 1)).setCell ⟨n, 2, none⟩ (g 2)).setCell ⟨n, 3, none⟩ (g 3)).setCell ⟨n, 4, none⟩ (g 4)).setCell ⟨n, 5, none⟩ (g 5)).setCell ⟨n, 6, none⟩ (g 6)).setCell ⟨n, 7, none⟩ (g 7)).setCell ⟨n, 8, none⟩ (g 8)).setCell ⟨n, 9, none⟩ (g 9)).setCell ⟨n, 10, none⟩ (g 10)).setCell ⟨n, 11, none⟩ (g 11) = W') :
    W'.heap[n]? = some (.cells (a12 g) t (0, 0)) ∧ Kp W W' (fun i => i = n) := by
  subst hW
  refine ⟨?_, ?_⟩
  · have h1 := row_set (row_set (row_set (row_set (row_set (row_set (row_set (row_set (row_set (row_set (row_set (row_set h (k := 0) (by omega) (g 0)) (k := 1) (by omega) (g 1)) (k := 2) (by omega) (g 2)) (k := 3) (by omega) (g 3)) (k := 4) (by omega) (g 4)) (k := 5) (by omega) (g 5)) (k := 6) (by omega) (g 6)) (k := 7) (by omega) (g 7)) (k := 8) (by omega) (g 8)) (k := 9) (by omega) (g 9)) (k := 10) (by omega) (g 10)) (k := 11) (by omega) (g 11)
    rw [h1, a12_congr (g' := g) (fun n hn => by
      rcases n with _ | _ | _ | _ | _ | _ | _ | _ | _ | _ | _ | _ | n
      all_goals first | rfl | omega)]
  · exact ((((((((((((Kp.refl W (fun i => i = n)).setCell _ (Or.inl rfl)).setCell _ (Or.inl rfl)).setCell _ (Or.inl rfl)).setCell _ (Or.inl rfl)).setCell _ (Or.inl rfl)).setCell _ (Or.inl rfl)).setCell _ (Or.inl rfl)).setCell _ (Or.inl rfl)).setCell _ (Or.inl rfl)).setCell _ (Or.inl rfl)).setCell _ (Or.inl rfl)).setCell _ (Or.inl rfl)
theorem a12_cells {W : World} {n : Nat} {g : Nat → Value} {t : TypeId} (h : W.heap[n]? = some (.cells (a12 g) t (0, 0))) : W.cell? ⟨n, 0, none⟩ = some (g 0) ∧ W.cell? ⟨n, 1, none⟩ = some (g 1) ∧ W.cell? ⟨n, 2, none⟩ = some (g 2) ∧ W.cell? ⟨n, 3, none⟩ = some (g 3) ∧ W.cell? ⟨n, 4, none⟩ = some (g 4) ∧ W.cell? ⟨n, 5, none⟩ = some (g 5) ∧ W.cell? ⟨n, 6, none⟩ = some (g 6) ∧ W.cell? ⟨n, 7, none⟩ = some (g 7) ∧ W.cell? ⟨n, 8, none⟩ = some (g 8) ∧ W.cell? ⟨n, 9, none⟩ = some (g 9) ∧ W.cell? ⟨n, 10, none⟩ = some (g 10) ∧ W.cell? ⟨n, 11, none⟩ = some (g 11) := by
  refine ⟨?_, ?_, ?_, ?_, ?_, ?_, ?_, ?_, ?_, ?_, ?_, ?_⟩ <;> (simp only [World.cell?, h]; rfl)
theorem a12_free {W : World} {n : Nat} {g : Nat → Value} {t : TypeId} (h : W.heap[n]? = some (.cells (a12 g) t (0, 0))) : W.frozen? ⟨n, 0, none⟩ = false ∧ W.frozen? ⟨n, 1, none⟩ = false ∧ W.frozen? ⟨n, 2, none⟩ = false ∧ W.frozen? ⟨n, 3, none⟩ = false ∧ W.frozen? ⟨n, 4, none⟩ = false ∧ W.frozen? ⟨n, 5, none⟩ = false ∧ W.frozen? ⟨n, 6, none⟩ = false ∧ W.frozen? ⟨n, 7, none⟩ = false ∧ W.frozen? ⟨n, 8, none⟩ = false ∧ W.frozen? ⟨n, 9, none⟩ = false ∧ W.frozen? ⟨n, 10, none⟩ = false ∧ W.frozen? ⟨n, 11, none⟩ = false := by
  refine ⟨?_, ?_, ?_, ?_, ?_, ?_, ?_, ?_, ?_, ?_, ?_, ?_⟩ <;> simp [World.frozen?, h]
theorem CmpC_any (a b : Cl) (w : World) : Calls Try.prog 22 #[clV a, clV b] w fun e w' => e = .returned (.int .i64 (ccl a b)) ∧ Below w.heap.size w w' := Cmp_any a.row a.col a.ver a.gone a.val b.row b.col b.ver b.gone b.val w

set_option maxHeartbeats 4000000 in
set_option maxRecDepth 100000 in
theorem ahead_any (l hd : Nat) (A B : List Tw) (c : Cl) (w : World) (hl : w.cell? ⟨l, 0, none⟩ = some (.pointer (some ⟨hd, 0, none⟩))) (hC : Chn w (hdT hd :: (A ++ B))) (hA : ∀ t ∈ A, ccl t.c c < 0) (hB : ∀ t ∈ B, 0 ≤ ccl t.c c) :
    Calls Try.prog 21 #[.pointer (some ⟨l, 0, none⟩), clV c] w fun e w' => ∃ f : Nat → Nat, e = .returned (.agg (a12 (fun n => .pointer (some ⟨f n, 0, none⟩)))) ∧ (∀ n, n < 12 → ∃ t, Last n (hdT hd :: A) t ∧ f n = t.b) ∧ Below w.heap.size w w' := by
  have hS := Ah.start w c
  have hlw := block_lt_of_cell hl
  have hl0 := (hS.bel.cell (p := ⟨l, 0, none⟩) hlw).trans hl
  go_enter Try.func21, Try.ntmps21
  simp only [a12] at hS hl0
  generalize hW0 : ((w.alloc (.cells #[.string (bstr c.row), .string (bstr c.col), .int .u64 c.ver, .bool c.gone, .string (bstr c.val)] 34)).alloc (.cells #[.pointer none, .pointer none, .pointer none, .pointer none, .pointer none, .pointer none, .pointer none, .pointer none, .pointer none, .pointer none, .pointer none, .pointer none] 52)).alloc (.cells #[.pointer none, .pointer none, .pointer none, .pointer none, .pointer none, .pointer none, .pointer none, .pointer none, .pointer none, .pointer none, .pointer none, .pointer none] 52) = w0 at *
  go_wp2_with fail
  clear hW0 hl0 hl
  have hbig : ∀ {W : World} {g : Nat → Value}, Ah w c W g → Chn W (hdT hd :: (A ++ B)) := fun h => hC.kept fun t ht => h.bel.block _ (hC.lt ht)
  have hnd := hC.nd
  go_loopw [6, 7] (fun s6 s7 wr => ∃ (n : Nat) (X : List Tw) (t : Tw) (Y : List Tw) (g : Nat → Value), s7 = .int .i64 ((n : Int) - 1) ∧ n ≤ 12 ∧ hdT hd :: A = X ++ t :: Y ∧ n ≤ t.h ∧ s6 = .pointer (some ⟨t.b, 0, none⟩) ∧ Ah w c wr g ∧ ∀ k, n ≤ k → k < 12 → ∃ t, Last k (hdT hd :: A) t ∧ g k = .pointer (some ⟨t.b, 0, none⟩)) (fun _ s7 _ => (intOf s7 + 1).toNat)
  case atStart => exact ⟨12, [], hdT hd, A, _, rfl, by omega, rfl, Nat.le_refl _, rfl, hS, fun k h1 h2 => by omega⟩
  case round =>
    obtain ⟨n, X, t, Y, g, rfl, hn, hX, hth, rfl, hA0, hg⟩ := hrel
    rcases n with _ | m
    · obtain ⟨f, hf, hgf⟩ := row_f (fun k hk => hg k (Nat.zero_le _) hk)
      have hlb := hA0.lb
      rw [a12_congr hgf] at hlb
      have hrb := hA0.rb
      obtain ⟨p0, p1, p2, p3, p4, p5, p6, p7, p8, p9, p10, p11⟩ := a12_cells hlb
      obtain ⟨q0, q1, q2, q3, q4, q5, q6, q7, q8, q9, q10, q11⟩ := a12_cells hrb
      obtain ⟨z0, z1, z2, z3, z4, z5, z6, z7, z8, z9, z10, z11⟩ := a12_free hrb
      have HRB : Hid _ := hrb
      clear hlb hrb hg hgf
      go_wp2
      generalize hW : (((((((((((World.setCell _ ⟨w.heap.size + 1, 0, none⟩ _).setCell ⟨w.heap.size + 1, 1, none⟩ _).setCell ⟨w.heap.size + 1, 2, none⟩ _).setCell ⟨w.heap.size + 1, 3, none⟩ _).setCell ⟨w.heap.size + 1, 4, none⟩ _).setCell ⟨w.heap.size + 1, 5, none⟩ _).setCell ⟨w.heap.size + 1, 6, none⟩ _).setCell ⟨w.heap.size + 1, 7, none⟩ _).setCell ⟨w.heap.size + 1, 8, none⟩ _).setCell ⟨w.heap.size + 1, 9, none⟩ _).setCell ⟨w.heap.size + 1, 10, none⟩ _).setCell ⟨w.heap.size + 1, 11, none⟩ _ = W'
      obtain ⟨hr, hk⟩ := set12_reads (g := fun n => .pointer (some ⟨f n, 0, none⟩)) HRB.out hW
      obtain ⟨u0, u1, u2, u3, u4, u5, u6, u7, u8, u9, u10, u11⟩ := a12_cells hr
      refine bodyPost_ret (v := .agg (a12 (fun n => .pointer (some ⟨f n, 0, none⟩)))) (by simp [results, Try.results21, go_sem, u0, u1, u2, u3, u4, u5, u6, u7, u8, u9, u10, u11, a12]) rfl ⟨f, rfl, hf, ?_⟩
      exact hA0.bel.trans (hk.below hA0.bel.size (fun i e => by subst e; exact Nat.le_succ _))
    · have hm12 : m < 12 := by omega
      have hi0 : (0 : Int) ≤ (m : Int) := by omega
      have hi1 : (m : Int) < 12 := by omega
      have hz : ((m + 1 : Nat) : Int) - 1 = (m : Int) := by omega
      simp only [hz]
      have HG : Hid _ := hg
      clear hg hz
      go_wp2_with fail
      go_loopw [6] (fun s6 wr => ∃ (X : List Tw) (t : Tw) (Y : List Tw), hdT hd :: A = X ++ t :: Y ∧ m < t.h ∧ s6 = .pointer (some ⟨t.b, 0, none⟩) ∧ Ah w c wr g) (fun s6 _ => A.length + B.length + 1 - posOf (hdT hd :: (A ++ B)) s6)
      case atStart => exact ⟨X, t, Y, hX, hth, rfl, hA0⟩
      case round =>
        clear hA0 hX hth hS
        obtain ⟨X, t, Y, hX, hth, rfl, hA0⟩ := hrel
        have hH : hdT hd :: (A ++ B) = X ++ t :: (Y ++ B) := by rw [← List.cons_append, hX]; simp
        have hT := (hbig hA0).at_ X t (Y ++ B) hH
        have hnx := hT.next hm12
        have e1 : lnk t (Y ++ B) m = nxt m (Y ++ B) := by simp [lnk, hth]
        rw [e1] at hnx
        rcases nxt_is (n := m) (L := Y) with ⟨b, eb⟩ | hno
        · obtain ⟨Y1, u, Y2, eY, rfl, hu, hY1⟩ := nxt_some eb
          have e2 : nxt m (Y ++ B) = some u.b := by rw [nxt_append, eb]; rfl
          rw [e2, pt_some] at hnx
          have hU := (hbig hA0).at_ (X ++ t :: Y1) u (Y2 ++ B) (by rw [hH, eY]; simp)
          have hlt : ccl u.c c < 0 := hA u (tail_mem hX (by rw [eY]; simp))
          have hX2 : hdT hd :: A = (X ++ t :: Y1) ++ u :: Y2 := by rw [hX, eY]; simp
          have hH2 : hdT hd :: (A ++ B) = (X ++ t :: Y1) ++ u :: (Y2 ++ B) := by rw [hH, eY]; simp
          have hmeas : A.length + B.length + 1 - posOf (hdT hd :: (A ++ B)) (.pointer (some ⟨u.b, 0, none⟩)) < A.length + B.length + 1 - posOf (hdT hd :: (A ++ B)) (.pointer (some ⟨t.b, 0, none⟩)) := by
            have h1 : posOf (hdT hd :: (A ++ B)) (.pointer (some ⟨u.b, 0, none⟩)) = (X ++ t :: Y1).length := by
              rw [hH2]; exact posOf_at (hH2 ▸ hnd)
            have h2 : posOf (hdT hd :: (A ++ B)) (.pointer (some ⟨t.b, 0, none⟩)) = X.length := by
              rw [hH]; exact posOf_at (hH ▸ hnd)
            have h3 := congrArg List.length hH2
            simp only [List.length_cons, List.length_append] at h1 h3
            rw [h1, h2]
            omega
          obtain ⟨c0, c1, c2, c3, c4⟩ := hU.cells
          obtain ⟨b0, b1, b2, b3, b4⟩ := hA0.cells
          have HLT : Hid _ := hlt
          have HM : Hid _ := hmeas
          have HE : Hid (lnk t (Y ++ B) m = some u.b) := e1.trans e2
          clear hlt hmeas e1 e2 eb eY hX hY1 hH hH2
          go_wp2_with fail
          go_region_held3 (fun w' => w'.cell? ⟨t.b, 5 + m, none⟩ = some (.pointer (some ⟨u.b, 0, none⟩)) ∧ w'.cell? ⟨u.b, 0, none⟩ = some (.string (bstr u.c.row)) ∧ w'.cell? ⟨u.b, 1, none⟩ = some (.string (bstr u.c.col)) ∧ w'.cell? ⟨u.b, 2, none⟩ = some (.int .u64 u.c.ver) ∧ w'.cell? ⟨u.b, 3, none⟩ = some (.bool u.c.gone) ∧ w'.cell? ⟨u.b, 4, none⟩ = some (.string (bstr u.c.val)) ∧
              w'.cell? ⟨w.heap.size, 0, none⟩ = some (.string (bstr c.row)) ∧ w'.cell? ⟨w.heap.size, 1, none⟩ = some (.string (bstr c.col)) ∧ w'.cell? ⟨w.heap.size, 2, none⟩ = some (.int .u64 c.ver) ∧ w'.cell? ⟨w.heap.size, 3, none⟩ = some (.bool c.gone) ∧ w'.cell? ⟨w.heap.size, 4, none⟩ = some (.string (bstr c.val))) (first | with_reducible exact ⟨hnx, c0, c1, c2, c3, c4, b0, b1, b2, b3, b4⟩ | go_keep)
            (first
              | (go_at_call 22; refine (CmpC_any u.c c _).mono ?_; rintro e w1 ⟨rfl, hb1⟩; have hA1 := hA0.drew.step hb1; have hnx1 := (hT.drew.below hb1).next hm12; rw [HE.out, pt_some] at hnx1; obtain ⟨c0', c1', c2', c3', c4'⟩ := (hU.drew.below hb1).cells; obtain ⟨b0', b1', b2', b3', b4'⟩ := hA1.cells; clear hnx c0 c1 c2 c3 c4 b0 b1 b2 b3 b4 hb1)
              | (go_at_call 22; refine (CmpC_any u.c c _).mono ?_; rintro e w1 ⟨rfl, hb1⟩; have hA1 := hA0.step hb1; have hnx1 := (hT.below hb1).next hm12; rw [HE.out, pt_some] at hnx1; obtain ⟨c0', c1', c2', c3', c4'⟩ := (hU.below hb1).cells; obtain ⟨b0', b1', b2', b3', b4'⟩ := hA1.cells; clear hnx c0 c1 c2 c3 c4 b0 b1 b2 b3 b4 hb1))
          have hlt := HLT.out
          go_wp2
          go_roundw
          case rel => exact ⟨_, u, Y2, hX2, hu, rfl, hA1⟩
          case measure => exact HM.out
        · rw [nxt_skip hno] at hnx
          have hLast : Last m (hdT hd :: A) t := ⟨X, Y, hX, hth, hno⟩
          have hrow := hA0.row hm12
          rcases nxt_is (n := m) (L := B) with ⟨b, eb⟩ | hno2
          · obtain ⟨B1, u, B2, eB, rfl, hu, hB1⟩ := nxt_some eb
            rw [eb, pt_some] at hnx
            have hU := (hbig hA0).at_ (X ++ t :: (Y ++ B1)) u B2 (by rw [hH, eB]; simp)
            have HLT : Hid (0 ≤ ccl u.c c) := hB u (by rw [eB]; simp)
            have he : lnk t (Y ++ B) m = some u.b := by rw [e1, nxt_skip hno, eb]
            have HE : Hid _ := he
            obtain ⟨c0, c1, c2, c3, c4⟩ := hU.cells
            obtain ⟨b0, b1, b2, b3, b4⟩ := hA0.cells
            clear hrow e1 eb eB hB1 hH hu he
            go_wp2_with fail
            go_region_held3 (fun w' => w'.cell? ⟨t.b, 5 + m, none⟩ = some (.pointer (some ⟨u.b, 0, none⟩)) ∧ w'.cell? ⟨u.b, 0, none⟩ = some (.string (bstr u.c.row)) ∧ w'.cell? ⟨u.b, 1, none⟩ = some (.string (bstr u.c.col)) ∧ w'.cell? ⟨u.b, 2, none⟩ = some (.int .u64 u.c.ver) ∧ w'.cell? ⟨u.b, 3, none⟩ = some (.bool u.c.gone) ∧ w'.cell? ⟨u.b, 4, none⟩ = some (.string (bstr u.c.val)) ∧
                w'.cell? ⟨w.heap.size, 0, none⟩ = some (.string (bstr c.row)) ∧ w'.cell? ⟨w.heap.size, 1, none⟩ = some (.string (bstr c.col)) ∧ w'.cell? ⟨w.heap.size, 2, none⟩ = some (.int .u64 c.ver) ∧ w'.cell? ⟨w.heap.size, 3, none⟩ = some (.bool c.gone) ∧ w'.cell? ⟨w.heap.size, 4, none⟩ = some (.string (bstr c.val))) (first | with_reducible exact ⟨hnx, c0, c1, c2, c3, c4, b0, b1, b2, b3, b4⟩ | go_keep)
              (first
                | (go_at_call 22; refine (CmpC_any u.c c _).mono ?_; rintro e w1 ⟨rfl, hb1⟩; have hA1 := hA0.drew.step hb1; have hnx1 := (hT.drew.below hb1).next hm12; rw [HE.out, pt_some] at hnx1; obtain ⟨c0', c1', c2', c3', c4'⟩ := (hU.drew.below hb1).cells; obtain ⟨b0', b1', b2', b3', b4'⟩ := hA1.cells; clear hnx c0 c1 c2 c3 c4 b0 b1 b2 b3 b4 hb1)
                | (go_at_call 22; refine (CmpC_any u.c c _).mono ?_; rintro e w1 ⟨rfl, hb1⟩; have hA1 := hA0.step hb1; have hnx1 := (hT.below hb1).next hm12; rw [HE.out, pt_some] at hnx1; obtain ⟨c0', c1', c2', c3', c4'⟩ := (hU.below hb1).cells; obtain ⟨b0', b1', b2', b3', b4'⟩ := hA1.cells; clear hnx c0 c1 c2 c3 c4 b0 b1 b2 b3 b4 hb1))
            have hge := HLT.out
            obtain ⟨r0, r1⟩ := hA1.row hm12
            go_wp2
            refine ⟨⟨m, X, t, Y, upd g m (.pointer (some ⟨t.b, 0, none⟩)), rfl, by omega, hX, by omega, rfl, hA1.set hm12 _, fun k h1 h2 => ?_⟩, by simp [intOf]⟩
            by_cases e : k = m
            · subst e
              exact ⟨t, hLast, upd_same _ _ _⟩
            · obtain ⟨t', h3, h4⟩ := HG.out k (by omega) h2
              exact ⟨t', h3, by rw [upd_other e]; exact h4⟩
          · rw [nxt_none hno2, pt_none] at hnx
            obtain ⟨r0, r1⟩ := hrow
            clear e1 hH
            go_wp2_with fail
            go_quiet (fail)
            go_wp2
            refine ⟨⟨m, X, t, Y, upd g m (.pointer (some ⟨t.b, 0, none⟩)), rfl, by omega, hX, by omega, rfl, (hA0.drewN _).set hm12 _, fun k h1 h2 => ?_⟩, by simp [intOf]⟩
            by_cases e : k = m
            · subst e
              exact ⟨t, hLast, upd_same _ _ _⟩
            · obtain ⟨t', h3, h4⟩ := HG.out k (by omega) h2
              exact ⟨t', h3, by rw [upd_other e]; exact h4⟩

end Go.Proofs.Ytijfmgpipnhkkaa
