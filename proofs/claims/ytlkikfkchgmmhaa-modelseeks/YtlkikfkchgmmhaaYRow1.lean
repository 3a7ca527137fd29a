/-
  rows$1: of a model's rows those that are not less than one, and in which a column is there, are told, each once, in whatever order.
-/
import Derived.Test.YtlkikfkchgmmhaaYRng
namespace Go.Proofs.Ytlkikfkchgmmhaa
open Go.RowKit Go.BigFrame Go.Sort
attribute [local go_sem] Oper.semAt_some
attribute [local go_sem] size_bstr toList_bstr ls_def

/-- A row that is told. -/
def Mt (F : Mf) (low col r : List UInt8) : Prop := ls r low = false ∧ ∃ x, F r col = some x ∧ x.gone = false
abbrev lkV (r c : List UInt8) (x : Cl) : Value := .agg #[.string (bstr r), .string (bstr c), .string (bstr x.row), .string (bstr x.col), .int .u64 x.ver, .bool x.gone, .string (bstr x.val), .bool true]
/-- What was told, by what is left of the map. -/
def TldM (F : Mf) (low col : List UInt8) (left : Lit → Bool) (T : List (List UInt8)) : Prop := (∀ r ∈ T, Mt F low col r) ∧ ∀ r : List UInt8, r.length ≤ bigL → Mt F low col r → left (klP r col) = false → r ∈ T
theorem TldM.skip {F : Mf} {low col r c : List UInt8} {left : Lit → Bool} {T : List (List UInt8)} (h : TldM F low col left T) (hr : r.length ≤ bigL) (hc : c.length ≤ bigL) (hcol : col.length ≤ bigL) (hn : ¬ (c = col ∧ Mt F low col r)) : TldM F low col (fun z => left z && !z.sameKey (klP r c)) T := by
  refine ⟨h.1, fun s hs hm hl => h.2 s hs hm ?_⟩
  simp only [Bool.and_eq_false_iff, Bool.not_eq_false'] at hl
  rcases hl with hl | hl
  · exact hl
  · have := klP_inj hs hcol hr hc (WideAt.sameKey_eq hl)
    obtain ⟨rfl, rfl⟩ := this
    exact absurd ⟨rfl, hm⟩ hn
theorem TldM.tell {F : Mf} {low col r : List UInt8} {left : Lit → Bool} {T : List (List UInt8)} (h : TldM F low col left T) (hr : r.length ≤ bigL) (hcol : col.length ≤ bigL) (hm : Mt F low col r) : TldM F low col (fun z => left z && !z.sameKey (klP r col)) (T ++ [r]) := by
  refine ⟨fun s hs => ?_, fun s hs hms hl => ?_⟩
  · rcases List.mem_append.1 hs with h1 | h1
    · exact h.1 s h1
    · rw [List.mem_singleton.1 h1]; exact hm
  · simp only [Bool.and_eq_false_iff, Bool.not_eq_false'] at hl
    rcases hl with hl | hl
    · exact List.mem_append_left _ (h.2 s hs hms hl)
    · obtain ⟨rfl, _⟩ := klP_inj hs hcol hr hcol (WideAt.sameKey_eq hl)
      exact List.mem_append_right _ List.mem_cons_self

theorem ranges_at {w w' : World} {P : Program} {k : TypeId} {R : Value → Option (DataW Value × List MemPlace)} {b r n cnt : Nat} {D : DataW Value} {left : Lit → Bool} (h : w.ranges P k R b r n D left cnt) (hb : w'.heap[b]? = w.heap[b]?) (hr : w'.heap[r]? = w.heap[r]?) : w'.ranges P k R b r n D left cnt := by
  obtain ⟨es, clock, since, seen, c0, h1, F, hs, hD, h2, rest⟩ := h
  exact ⟨es, clock, since, seen, c0, hb.trans h1, F, hs, hD, hr.trans h2, rest⟩
/-- Where the iterator stands. -/
def RI (w : World) (m n : Nat) (F : Mf) (low col : List UInt8) (S : Nat → Prop) (J : List (List UInt8) → World → Prop) (D : DataW Value) (k : Nat) (wr : World) : Prop := ∃ (left : Lit → Bool) (cnt : Nat) (T : List (List UInt8)), wr.ranges Try.prog 60 celElem m w.heap.size n D left cnt ∧ cnt ≤ k ∧ J T wr ∧ TldM F low col left T ∧ w.heap.size + 1 ≤ wr.heap.size ∧ ∀ i, i < w.heap.size → ¬ S i → wr.heap[i]? = w.heap[i]?
/-- The range under way, in a word that a walk does not open. -/
structure Rg9 (w : World) (m r n : Nat) (D : DataW Value) (left : Lit → Bool) (cnt : Nat) : Prop where
  h : w.ranges Try.prog 60 celElem m r n D left cnt
theorem RI.mk9 {w wr : World} {m n k cnt : Nat} {F : Mf} {low col : List UInt8} {S : Nat → Prop} {J : List (List UInt8) → World → Prop} {D : DataW Value} {left : Lit → Bool} {T : List (List UInt8)} (h1 : Rg9 wr m w.heap.size n D left cnt) (h2 : cnt ≤ k) (h3 : J T wr) (h4 : TldM F low col left T) (h5 : w.heap.size + 1 ≤ wr.heap.size) (h6 : ∀ i, i < w.heap.size → ¬ S i → wr.heap[i]? = w.heap[i]?) : RI w m n F low col S J D k wr := ⟨left, cnt, T, h1.h, h2, h3, h4, h5, h6⟩

set_option maxHeartbeats 8000000 in
set_option maxRecDepth 100000 in
theorem rows1_any (bm bl bc g m n : Nat) (F : Mf) (low col : List UInt8) (lr : Nat) (S : Nat → Prop) (J : List (List UInt8) → World → Prop) (w : World) (hcol : col.length ≤ bigL)
    (hM : Md w g m n F)
    (cm : w.cell? ⟨bm, 0, none⟩ = some (.pointer (some ⟨g, 0, none⟩))) (cl : w.cell? ⟨bl, 0, none⟩ = some (.string (bstr low))) (cc : w.cell? ⟨bc, 0, none⟩ = some (.string (bstr col)))
    (hS : ∀ i, S i → i < w.heap.size ∧ i ≠ g ∧ i ≠ m ∧ i ≠ bm ∧ i ≠ bl ∧ i ≠ bc)
    (hab : ∀ T W W', J T W → Below w.heap.size W W' → J T W')
    (hY : ∀ k T r x W, F r col = some x → Mt F low col r → w.heap.size ≤ W.heap.size → J T W → YieldAt Fence.wide k Try.prog lr #[lkV r col x] W fun e W' => e = .returned (.bool true) ∧ J (T ++ [r]) W' ∧ Kp W W' S)
    (hJ : J [] w) :
    Calls Try.prog 51 #[.func (.yield lr) #[] #[], .pointer (some ⟨bm, 0, none⟩), .pointer (some ⟨bl, 0, none⟩), .pointer (some ⟨bc, 0, none⟩)] w fun e W => (∃ u, e = .returned u) ∧ ∃ T, J T W ∧ (∀ r ∈ T, Mt F low col r) ∧ ∀ r : List UInt8, r.length ≤ bigL → Mt F low col r → r ∈ T := by
  obtain ⟨D, hown, hMp⟩ := hM.mp
  have c0 := (mcells hM.bx).1 0
  simp at c0
  refine calls_in Try.func51 rfl ?_
  simp only [Try.ntmps51, List.size_toArray, List.length_cons, List.length_nil, Nat.reduceAdd, Nat.reduceSub, Array.replicate_succ, Array.replicate_zero, List.push_toArray, List.append_toArray, List.nil_append, List.cons_append]
  gi_wp2_with (first
    | (gi_at_range; refine wpListIn_range_own _ rfl _ 56 rfl 60 38 keyP Try.underlying56 celElem m n _ rfl hown ?_; intro w0 hrg0 hg0 hs0)
    | fail)
  have hb0 : Below w.heap.size w w0 := (Below.refl _ _).grown hg0 (Nat.le_refl _) (fun j hj => by cases hj)
  have hT0 : TldM F low col (Maps.has D) [] := by
    refine ⟨fun r hr => (by cases hr), fun r hr hm hl => ?_⟩
    obtain ⟨_, x, hx, _⟩ := hm
    have h9 := (hMp.1 r col hr hcol).2
    rw [hx] at h9
    rw [h9] at hl
    cases hl
  have hI0 : RI w m n F low col S J D (Maps.size D) w0 := ⟨_, _, [], hrg0, Nat.le_refl _, hab _ _ _ hJ hb0, hT0, by omega, fun j hj _ => hb0.block j hj⟩
  clear hrg0 hg0 hs0 hb0 hJ
  refine wpIn_loop_n (fun k a wr => ∃ (u4 u5 u6 u7 u13 u14 u15 u16 u17 u18 u19 u20 u21 u22 u23 u24 u25 u26 u27 u28 u29 u30 u31 u32 u33 u34 u35 u36 u37 u38 u39 u40 u41 : Value), a = { tmps := #[.func (.yield lr) #[] #[], .pointer (some ⟨bm, 0, none⟩), .pointer (some ⟨bl, 0, none⟩), .pointer (some ⟨bc, 0, none⟩), u4, u5, u6, u7, .pointer (some ⟨g, 0, none⟩), .pointer (some ⟨g, 0, none⟩), .pointer (some ⟨g, 0, none⟩), .map (some m), .pointer (some ⟨w.heap.size, 0, none⟩), u13, u14, u15, u16, u17, u18, u19, u20, u21, u22, u23, u24, u25, u26, u27, u28, u29, u30, u31, u32, u33, u34, u35, u36, u37, u38, u39, u40, u41], defers := [] } ∧ RI w m n F low col S J D k wr) (Maps.size D) ?start ?round
  case start => exact ⟨_, _, _, _, _, _, _, _, _, _, _, _, _, _, _, _, _, _, _, _, _, _, _, _, _, _, _, _, _, _, _, _, _, rfl, hI0⟩
  case round =>
    clear hI0
    rintro k a wr ⟨u4, u5, u6, u7, u13, u14, u15, u16, u17, u18, u19, u20, u21, u22, u23, u24, u25, u26, u27, u28, u29, u30, u31, u32, u33, u34, u35, u36, u37, u38, u39, u40, u41, rfl, left, cnt, T, hrg, hck, hJ, hT, hsz, hkeep⟩
    have hmw : m < w.heap.size := hM.lt.2
    gi_wp2_with (first
      | (gi_at_next; refine wpListIn_next_ranges _ rfl _ rfl 60 keyP celElem (fun x : Value => x) (fun x : Value => x) (fun key _ _ => ⟨key, rfl⟩) (fun v _ _ => ⟨v, rfl⟩) m w.heap.size n _ _ _ rfl hrg ?_ ?_)
      | fail)
    · intro hc0 hl0
      gi_wp2
      exact ⟨rfl, _, results_none rfl _ _ _, ⟨_, rfl⟩, T, hJ, hT.1, fun r hr hm => hT.2 r hr hm (hl0 _)⟩
    · intro x c kl y1 y2 w3 cnt1 hkey hlk hv hat hrg1 hlt1 hg1 hs1 hen
      have hhas : Maps.has D kl = true := Maps.has_true_of_atKey hat
      obtain ⟨r, c', hr, hc, rfl⟩ := hMp.2 kl hhas
      obtain rfl : x = .agg #[.string (bstr r), .string (bstr c')] := keyP.inj hkey (key_place hr hc)
      obtain ⟨e1, e2⟩ := hMp.1 r c' hr hc
      rw [hhas] at e2
      obtain ⟨xc, hxc⟩ : ∃ xc, F r c' = some xc := by
        cases hf : F r c' with
        | none => rw [hf] at e2; cases e2
        | some xc => exact ⟨xc, rfl⟩
      rw [hat, hxc] at e1
      obtain rfl : c = clV xc := by
        unfold celElem at hv
        have h9 : DataW.held c = y1 := congrArg Prod.fst (Option.some.inj hv)
        rw [e1] at h9
        injection h9
      obtain ⟨xr, xk, xv, xg, xx⟩ := xc
      cases k with
      | zero => exact absurd hlt1 (by omega)
      | succ k =>
        have hb3 : Below w.heap.size wr w3 := (Below.refl _ _).grown hg1 (by omega) (fun j hj => by cases hj; exact Nat.le_refl _)
        have hJ3 := hab _ _ _ hJ hb3
        have hk3 : ∀ i, i < w.heap.size → ¬ S i → w3.heap[i]? = w.heap[i]? := fun i h1 h2 => (hb3.block i h1).trans (hkeep i h1 h2)
        have hs3 : w.heap.size + 1 ≤ w3.heap.size := by omega
        obtain ⟨w4, hw4⟩ : ∃ w4, w4 = ((w3.alloc (.cells #[.string (bstr r), .string (bstr c')] 60)).alloc (.cells #[.string (bstr xr), .string (bstr xk), .int .u64 xv, .bool xg, .string (bstr xx)] 38)).alloc (.cells #[.string (bstr r), .string (bstr c'), .string (bstr xr), .string (bstr xk), .int .u64 xv, .bool xg, .string (bstr xx), .bool true] 72) := ⟨_, rfl⟩
        have hb34 : Below w3.heap.size w3 w4 := by rw [hw4]; exact (((Below.refl _ _).alloc (Nat.le_refl _) _).alloc (by simp) _).alloc (by simp; omega) _
        have hL4 : LkB w4 (w3.heap.size + 1 + 1) ⟨r, c', ⟨xr, xk, xv, xg, xx⟩, true⟩ := by
          have h9 := heap_alloc_new ((w3.alloc (.cells #[.string (bstr r), .string (bstr c')] 60)).alloc (.cells #[.string (bstr xr), .string (bstr xk), .int .u64 xv, .bool xg, .string (bstr xx)] 38)) (.cells #[.string (bstr r), .string (bstr c'), .string (bstr xr), .string (bstr xk), .int .u64 xv, .bool xg, .string (bstr xx), .bool true] 72)
          rw [World.size_alloc, World.size_alloc] at h9
          rw [hw4]
          exact h9
        have hJ4 : J T w4 := hab _ _ _ hJ3 ⟨hb34.os, hb34.tape, hb34.output, hb34.size, fun i hi => hb34.block i (by omega)⟩
        have hrg4 := ranges_at hrg1 (hb34.block m (by omega)) (hb34.block w.heap.size (by omega))
        have hk4 : ∀ i, i < w.heap.size → ¬ S i → w4.heap[i]? = w.heap[i]? := fun i h1 h2 => (hb34.block i (by omega)).trans (hk3 i h1 h2)
        have hs4 : w.heap.size + 1 ≤ w4.heap.size := Nat.le_trans hs3 hb34.size
        have kcl : w4.cell? ⟨bl, 0, none⟩ = some (.string (bstr low)) := by
          have hlt := World.block_lt_of_cell? w _ cl
          rw [World.cell?_of_block (hk4 bl hlt (fun h => (hS bl h).2.2.2.2.1 rfl))]; exact cl
        have kcc : w4.cell? ⟨bc, 0, none⟩ = some (.string (bstr col)) := by
          have hlt := World.block_lt_of_cell? w _ cc
          rw [World.cell?_of_block (hk4 bc hlt (fun h => (hS bc h).2.2.2.2.2 rfl))]; exact cc
        have hL4' : LkB w4 (wr.heap.size + 1 + 1) ⟨r, c', ⟨xr, xk, xv, xg, xx⟩, true⟩ := by rw [← hs1]; exact hL4
        obtain ⟨l0, l1, l2, l3, l4, l5, l6, l7⟩ := hL4'.facts
        simp only at l0 l1 l2 l3 l4 l5 l6 l7
        have hth := there_any (wr.heap.size + 1 + 1) ⟨r, c', ⟨xr, xk, xv, xg, xx⟩, true⟩ w4 hL4'
        rw [hw4] at kcl kcc l0 l1 l2 l3 l4 l5 l6 l7
        have HW4 : Hid _ := hw4
        have HRG : Rg9 w4 m w.heap.size n D (fun z => left z && !z.sameKey (klP r c')) cnt1 := ⟨hrg4⟩
        have HFx : Hid _ := hxc
        clear hw4 hrg1 hrg hJ hJ3 hb3 hb34 hkeep hk3 hat e1 e2 hkey hlk hv hg1 hhas hxc hL4 hrg4
        by_cases hlow : ls r low = true
        · have hTs : TldM F low col (fun z => left z && !z.sameKey (klP r c')) T := hT.skip hr hc hcol (fun h => by have := h.2.1; rw [hlow] at this; cases this)
          have HTs : Hid _ := hTs
          clear hTs hT
          gi_wp2_with fail
          refine ⟨trivial, ?_⟩
          gi_wp2_with fail
          refine ⟨fun _ h => (by cases h), ?_⟩
          gi_wp2_with fail
          rw [← HW4.out]
          exact ⟨k, rfl, _, _, _, _, _, _, _, _, _, _, _, _, _, _, _, _, _, _, _, _, _, _, _, _, _, _, _, _, _, _, _, _, _, rfl, RI.mk9 HRG (by omega) hJ4 HTs.out hs4 hk4⟩
        · have hlow : ls r low = false := by simpa using hlow
          by_cases hcc : c' = col
          · subst hcc
            cases xg with
            | true =>
              have hTs : TldM F low c' (fun z => left z && !z.sameKey (klP r c')) T := hT.skip hr hc hcol (fun h => by
                obtain ⟨x9, e9, g9⟩ := h.2.2
                rw [HFx.out] at e9
                cases e9
                cases g9)
              have HTs : Hid _ := hTs
              clear hTs hT
              gi_wp2_with fail
              rw [← HW4.out]
              refine ⟨trivial, (callsIn_wide.2 hth).mono ?_⟩
              rintro e w5 ⟨rfl, rfl⟩
              gi_wp2_with fail
              refine ⟨fun _ h => (by cases h), ?_⟩
              gi_wp2_with fail
              exact ⟨k, rfl, _, _, _, _, _, _, _, _, _, _, _, _, _, _, _, _, _, _, _, _, _, _, _, _, _, _, _, _, _, _, _, _, _, rfl, RI.mk9 HRG (by omega) hJ4 HTs.out hs4 hk4⟩
            | false =>
              have hmt : Mt F low c' r := ⟨hlow, _, HFx.out, rfl⟩
              have HTs : Hid _ := hT.tell hr hcol hmt
              obtain ⟨fn, tmps, assign, body, hyr, hRR⟩ := hY (3 - 1) T r _ w4 HFx.out hmt (by omega) hJ4
              have n0 := hL4'.facts
              simp only at n0
              obtain ⟨n0, n1, n2, n3, n4, n5, n6, n7⟩ := n0
              clear hT
              gi_wp2_with fail
              rw [← HW4.out]
              refine ⟨trivial, (callsIn_wide.2 hth).mono ?_⟩
              rintro e w5 ⟨rfl, rfl⟩
              clear l0 l1 l2 l3 l4 l5 l6 l7
              gi_wp2_with fail
              refine hRR.mono ?_
              rintro e w6 ⟨rfl, hJ6, hk6⟩
              have hr6 := Rg9.mk (ranges_at HRG.h (hk6.block m (by omega) (fun h => (hS m h).2.2.1 rfl)) (hk6.block w.heap.size (by omega) (fun h => by have := (hS _ h).1; omega)))
              have hRI : RI w m n F low c' S J D k w6 := RI.mk9 hr6 (by omega) hJ6 HTs.out (Nat.le_trans hs4 hk6.size) (fun i h1 h2 => (hk6.block i (by omega) h2).trans (hk4 i h1 h2))
              have HRI : Hid _ := hRI
              clear hRI hr6 hJ6 hk6
              gi_wp2_with fail
              exact ⟨k, rfl, _, _, _, _, _, _, _, _, _, _, _, _, _, _, _, _, _, _, _, _, _, _, _, _, _, _, _, _, _, _, _, _, _, rfl, HRI.out⟩
          · have hTs : TldM F low col (fun z => left z && !z.sameKey (klP r c')) T := hT.skip hr hc hcol (fun h => hcc h.1)
            have HTs : Hid _ := hTs
            have hcb : (c' == col) = false := by simpa using hcc
            clear hTs hT
            gi_wp2_with fail
            refine ⟨trivial, ?_⟩
            gi_wp2_with fail
            refine ⟨fun _ h => (by cases h), ?_⟩
            gi_wp2_with fail
            rw [← HW4.out]
            exact ⟨k, rfl, _, _, _, _, _, _, _, _, _, _, _, _, _, _, _, _, _, _, _, _, _, _, _, _, _, _, _, _, _, _, _, _, _, rfl, RI.mk9 HRG (by omega) hJ4 HTs.out hs4 hk4⟩

end Go.Proofs.Ytlkikfkchgmmhaa
